/- A choice, by the reference. -/
import Derived.Test.YtmfnpipmbpnfbaaGreatDoorF29

set_option maxRecDepth 100000
set_option maxHeartbeats 40000000
namespace Go.Proofs.YtmfnpipmbpnfbaaGreatDoor
open Go.RowKit
def Bc3 (w : World) (g : Nat) (p q r : Value) : Prop := w.cell? ⟨g, 0, none⟩ = some p ∧ w.cell? ⟨g, 1, none⟩ = some q ∧ w.cell? ⟨g, 2, none⟩ = some r ∧ g < w.heap.size
theorem Bc3.keep {w w' : World} {g : Nat} {p q r : Value} (h : Bc3 w g p q r) (hb : Below w.heap.size w w') : Bc3 w' g p q r :=
  ⟨(hb.cell (p := ⟨g, 0, none⟩) h.2.2.2).trans h.1, (hb.cell (p := ⟨g, 1, none⟩) h.2.2.2).trans h.2.1, (hb.cell (p := ⟨g, 2, none⟩) h.2.2.2).trans h.2.2.1, Nat.lt_of_lt_of_le h.2.2.2 hb.size⟩
theorem Bc3.new (w : World) (p q r : Value) (T : Nat) : Bc3 (w.alloc (.cells #[p, q, r] T)) w.heap.size p q r := by simp [Bc3, go_sem]
def PBx (w : World) (g : Nat) (A : Option Addr) (n c : Nat) : Prop := w.cell? ⟨g, 2, none⟩ = some (.slice A n c) ∧ g < w.heap.size
theorem PBx.keep {w w' : World} {g : Nat} {A : Option Addr} {n c : Nat} (h : PBx w g A n c) (hb : Below w.heap.size w w') : PBx w' g A n c :=
  ⟨(hb.cell (p := ⟨g, 2, none⟩) h.2).trans h.1, Nat.lt_of_lt_of_le h.2 hb.size⟩
def EndC (w : World) (A : Option Addr) (n c g : Nat) (x : Rat) (wx : World) : Prop := BR wx g x ∧ W6 g wx ∧ PBx wx w.heap.size A n c ∧ Below w.heap.size w wx
theorem chEnd {w wr wx : World} {A : Option Addr} {nn cc g : Nat} {x : Rat} {s s' : Int} {neg neg' : Bool} {B B' : Option Addr} {n c n' c' : Nat} (hg : w.heap.size < g) (hb : Below w.heap.size w wr) (hx : Below wr.heap.size wr wx) (hW : W6 g wx) (hr : PBx wx w.heap.size A nn cc) (h : RI wx s neg B n c x.num) (h' : RI wx s' neg' B' n' c' (x.den : Int)) :
    EndC w A nn cc g x (set6 wx g (.int .i64 s) (.bool neg) (.slice B n c) (.int .i64 s') (.bool neg') (.slice B' n' c')) :=
  ⟨BR.put hW h h', hW.put' _ _ _ _ _ _, ⟨(World.cell?_of_block (w := wx) (a := ⟨w.heap.size, 2, none⟩) (heap_set6 wx (show w.heap.size ≠ g by omega) _ _ _ _ _ _)).trans hr.1, Nat.lt_of_lt_of_le hr.2 (size_set6 _ _ _ _ _ _ _ _)⟩, set6_below (hb.trans (hx.mono hb.size)) (by omega) _ _ _ _ _ _⟩
theorem rchoice_w1 (t l : Int) (A : Option Addr) (n c ns : Nat) (w : World) (_hn : n ≤ 1000000) (hv : vld t l = false) :
    Calls Tryz.prog 54 #[.agg #[.int .i64 t, .int .i64 l, .slice A n c], .int .i64 (ns : Int)] w fun e w' => e = .returned (.bool false) ∧ Below w.heap.size w w' := by
  have HV := Lib.hid hv
  clear hv
  go_enter Tryz.func54, Tryz.ntmps54
  go_wp2_with fail
  (with_reducible refine (rvalid_any t l _).mono ?_)
  rintro e w1 ⟨rfl, hB1⟩
  rw [HV.out]
  have B1 := Lib.hid ((below_alloc w _).trans (hB1.mono (below_alloc w _).size))
  clear hB1
  go_wp2_with fail
  go_ret
  exact ⟨rfl, B1.out⟩
theorem rchoice_w2 (t l : Int) (A : Option Addr) (n c ns : Nat) (w : World) (_hn : n ≤ 1000000) (hv : vld t l = true) (b1 : decide ((n : Int) < 1) = true) :
    Calls Tryz.prog 54 #[.agg #[.int .i64 t, .int .i64 l, .slice A n c], .int .i64 (ns : Int)] w fun e w' => e = .returned (.bool false) ∧ Below w.heap.size w w' := by
  have HV := Lib.hid hv
  clear hv
  go_enter Tryz.func54, Tryz.ntmps54
  go_upto_region 1 with fail
  generalize hX : w.alloc _ = X
  have HX : Hid (Below w.heap.size w X) := by rw [← hX]; exact below_alloc _ _
  have BX : Hid (Bc3 X w.heap.size (.int .i64 t) (.int .i64 l) (.slice A n c)) := by rw [← hX]; exact Bc3.new _ _ _ _ _
  clear hX
  obtain ⟨x0, x1, x2, -⟩ := BX.out
  go_wp2_with fail
  (with_reducible refine (rvalid_any t l _).mono ?_)
  rintro e w1 ⟨rfl, hB1⟩
  rw [HV.out]
  have B1 := Lib.hid (HX.out.trans (hB1.mono HX.out.size))
  have BX1 := Lib.hid (BX.out.keep hB1)
  clear hB1 x0 x1 x2
  obtain ⟨x0, x1, x2, -⟩ := BX1.out
  go_wp2_with fail
  go_ret
  exact ⟨rfl, B1.out⟩
theorem rchoice_w3 (t l : Int) (A : Option Addr) (n c ns : Nat) (w : World) (_hn : n ≤ 1000000) (hv : vld t l = true) (b1 : decide ((n : Int) < 1) = false) (b2 : decide ((8 : Int) < (n : Int)) = true) :
    Calls Tryz.prog 54 #[.agg #[.int .i64 t, .int .i64 l, .slice A n c], .int .i64 (ns : Int)] w fun e w' => e = .returned (.bool false) ∧ Below w.heap.size w w' := by
  have HV := Lib.hid hv
  clear hv
  go_enter Tryz.func54, Tryz.ntmps54
  go_upto_region 1 with fail
  generalize hX : w.alloc _ = X
  have HX : Hid (Below w.heap.size w X) := by rw [← hX]; exact below_alloc _ _
  have BX : Hid (Bc3 X w.heap.size (.int .i64 t) (.int .i64 l) (.slice A n c)) := by rw [← hX]; exact Bc3.new _ _ _ _ _
  clear hX
  obtain ⟨x0, x1, x2, -⟩ := BX.out
  go_wp2_with fail
  (with_reducible refine (rvalid_any t l _).mono ?_)
  rintro e w1 ⟨rfl, hB1⟩
  rw [HV.out]
  have B1 := Lib.hid (HX.out.trans (hB1.mono HX.out.size))
  have BX1 := Lib.hid (BX.out.keep hB1)
  clear hB1 x0 x1 x2
  obtain ⟨x0, x1, x2, -⟩ := BX1.out
  go_wp2_with fail
  go_ret
  exact ⟨rfl, B1.out⟩
theorem one_lt_Bs {k : Nat} (hk : k ≠ 0) : 1 < Bs ^ k := Nat.one_lt_pow hk (by decide)
structure ChH (n : Nat) (ct cl : Nat → Int) : Prop where
  conv : ∀ i wx, i < n → vld (ct i) (cl i) = true → Calls Tryz.prog 98 #[.agg #[.int .i64 (ct i), .int .i64 (cl i)]] wx (RetV (.rat (fr (ct i) (cl i))) wx)
  plus : ∀ k wx u u', k < n → (∀ i, i ≤ k → vld (ct i) (cl i) = true) → RFV wx u (chSum ct cl k) → RFV wx u' (fr (ct k) (cl k)) → Calls Tryz.prog 97 #[u, u'] wx (RetV (.rat (chSum ct cl (k + 1))) wx)
  cmp : ∀ wx u u', (∀ i, i < n → vld (ct i) (cl i) = true) → RFV wx u (chSum ct cl n) → RFV wx u' 1 → Calls Tryz.prog 99 #[u, u'] wx (RetV (.val (.int .i64 (sgnI (chSum ct cl n - 1).num))) wx)
theorem fr_w4 {t l : Int} (h : vld t l = true) : Bd (fr t l) (2 ^ 120) (2 ^ 120) := by
  obtain ⟨x, rfl, rfl, hx⟩ := vld_rat h
  obtain ⟨h1, h2⟩ := vld_le h
  rw [hx]
  exact ⟨Nat.le_trans h1 (by decide), Nat.le_trans h2 (by decide)⟩
theorem chH (n : Nat) (ct cl : Nat → Int) (hn : n ≤ 8) : ChH n ct cl where
  conv := fun i wx _ hv => rv_to' hv wx
  plus := fun k wx u u' hk hv h h' => rv_plus 1000 h h' (by omega)
    (Bd.ref (k := 4 * k + 1) (by omega) (Bd.dot_gen (by omega) (Nat.le_refl _) fun i hi => fr_w4 (hv i (by omega))))
    (fr_bd (hv k (Nat.le_refl _)))
  cmp := fun wx u u' hv h h' => rv_compare 1000 h h' (by omega)
    (Bd.ref (k := 4 * n + 1) (by omega) (Bd.dot_gen (by omega) (Nat.le_refl _) fun i hi => fr_w4 (hv i hi))) ⟨@one_lt_Bs 1000 (by omega), @one_lt_Bs 1000 (by omega)⟩
theorem sgn_one (z : Rat) : decide (z = 1) = (sgnI (z - 1).num == 0) := by
  rw [Bool.eq_iff_iff]
  simp only [decide_eq_true_eq, beq_iff_eq]
  constructor
  · rintro rfl
    decide +kernel
  · intro h
    have h0 : (z - 1).num = 0 := by
      unfold sgnI at h
      by_cases c1 : (z - 1).num < 0
      · rw [if_pos c1] at h
        omega
      · rw [if_neg c1] at h
        by_cases c2 : (z - 1).num = 0
        · exact c2
        · rw [if_neg c2] at h
          omega
    have h1 : z - 1 = 0 := Rat.num_eq_zero.1 h0
    have h2 : z = z - 1 + 1 := by rw [Rat.sub_eq_add_neg, Rat.add_assoc, Rat.neg_add_cancel, Rat.add_zero]
    rw [h2, h1, Rat.zero_add]
def ChL (w : World) (A : Option Addr) (n c ns g : Nat) (tw ct cl : Nat → Int) (i : Value) (wr : World) : Prop :=
  ∃ k : Nat, Hid (k ≤ n) ∧ i = .int .i64 (k : Int) ∧ Hid (∀ i, i < k → brB ns tw ct cl i = true) ∧ Hid (BR wr g (chSum ct cl k)) ∧ Hid (W6 g wr) ∧ Hid (PBx wr w.heap.size A n c) ∧ Hid (Below w.heap.size w wr)
theorem rchoice_ok (t l : Int) (A : Option Addr) (n c ns : Nat) (tw ct cl : Nat → Int) (w : World) (hn1 : 1 ≤ n) (hn : n ≤ 8) (_hns : ns ≤ 1000000) (hv : vld t l = true) (hA : Lbr w A n tw ct cl) :
    Calls Tryz.prog 54 #[.agg #[.int .i64 t, .int .i64 l, .slice A n c], .int .i64 (ns : Int)] w fun e w' => e = .returned (.bool (bsB ns n tw ct cl)) ∧ Below w.heap.size w w' := by
  have HV := Lib.hid hv
  have HH := Lib.hid (chH n ct cl hn)
  have HA := Lib.hid hA
  have HW0 : Hid (∀ wx, Calls Tryz.prog 96 #[.int .i64 0] wx (RetV (.rat 0) wx)) := fun wx => rv_whole 0 0 wx ⟨rfl, rfl⟩ (by omega) (by omega)
  have HW1 : Hid (∀ wx, Calls Tryz.prog 96 #[.int .i64 1] wx (RetV (.rat 1) wx)) := fun wx => rv_whole 1 1 wx ⟨rfl, rfl⟩ (by omega) (by omega)
  have b1 : decide ((n : Int) < 1) = false := by simp; omega
  have b2 : decide ((8 : Int) < (n : Int)) = false := by simp; omega
  clear hv hA
  go_enter Tryz.func54, Tryz.ntmps54
  go_upto_region 1 with fail
  generalize hX : w.alloc _ = X
  have HX : Hid (Below w.heap.size w X) := by rw [← hX]; exact below_alloc _ _
  have BX : Hid (Bc3 X w.heap.size (.int .i64 t) (.int .i64 l) (.slice A n c)) := by rw [← hX]; exact Bc3.new _ _ _ _ _
  clear hX
  obtain ⟨x0, x1, x2, -⟩ := BX.out
  go_wp2_with fail
  (with_reducible refine (rvalid_any t l _).mono ?_)
  rintro e w1 ⟨rfl, hB1⟩
  rw [HV.out]
  have B1 := Lib.hid (HX.out.trans (hB1.mono HX.out.size))
  have BX1 := Lib.hid (BX.out.keep hB1)
  clear hB1 x0 x1 x2 HX BX
  obtain ⟨x0, x1, x2, -⟩ := BX1.out
  go_wp2_with fail
  (with_reducible refine (HW0.out w1).mono ?_)
  rintro e w2 ⟨u0, rfl, ⟨s0, neg0, A0, n0, c0, s0', neg0', A0', n0', c0', rfl, hr1, hr2⟩, hB2⟩
  have B2 := Lib.hid (B1.out.trans (hB2.mono B1.out.size))
  have P2 : Hid (PBx w2 w.heap.size A n c) := ⟨(hB2.cell (p := ⟨w.heap.size, 2, none⟩) BX1.out.2.2.2).trans x2, Nat.lt_of_lt_of_le BX1.out.2.2.2 hB2.size⟩
  clear hB2 x0 x1 x2 BX1 B1 b1 b2
  go_upto_region 4 with fail
  generalize hY : w2.alloc _ = Y
  have hBY : Below w2.heap.size w2 Y := by rw [← hY]; exact below_alloc _ _
  have S0 : BR Y w2.heap.size (chSum ct cl 0) := by
    show BR Y w2.heap.size (sumQ _ 0)
    rw [sumQ_zero]
    refine ⟨s0, neg0, A0, n0, c0, s0', neg0', A0', n0', c0', ?_, hr1.keep hBY, hr2.keep hBY⟩
    rw [← hY]
    simp [B6, go_sem]
  have S1 : W6 w2.heap.size Y := by rw [← hY]; exact W6.new w2 _ _ _ _ _ _ rfl
  have HS0 := Lib.hid S0
  have HS1 := Lib.hid S1
  have HS2 := Lib.hid (P2.out.keep hBY)
  have HS3 := Lib.hid (B2.out.trans (hBY.mono B2.out.size))
  have hlg : w.heap.size < w2.heap.size := P2.out.2
  clear hY hBY S0 S1 hr1 hr2 P2 B2
  generalize hg0 : w2.heap.size = g0 at *
  clear hg0
  obtain ⟨p2, -⟩ := HS2.out
  go_wp2_with fail
  clear p2
  go_loopw [28] (fun i wr => ChL w A n c ns g0 tw ct cl i wr) (fun i _ => n - (intOf i).toNat)
  case atStart => exact ⟨0, Nat.zero_le _, rfl, Lib.hid (fun i hi => absurd hi (by omega)), HS0, HS1, HS2, HS3⟩
  case round =>
    clear HS0 HS1 HS2 HS3
    obtain ⟨k, hk, rfl, hv, hbr, hw6, hpb, hbel⟩ := hrel
    by_cases hlt : k < n
    · have hlt' : (k : Int) < (n : Int) := by omega
      obtain ⟨b, off, rfl, hb, hcells⟩ := HA.out.keep hbel.out (by omega)
      obtain ⟨hc0, hc1, hc2⟩ := hcells k hlt
      dsimp only at hc0 hc1 hc2
      have HC : Hid (brB ns tw ct cl k = (!(decide (tw k < 0)) && !(decide ((ns : Int) ≤ tw k)) && !(decide (0 < k) && decide (tw k ≤ tw (k - 1))) && vld (ct k) (cl k) && !(decide (ct k ≤ 0)))) := rfl
      have HPV : Hid (0 < k → wr.cell? ⟨b, off + (k - 1) * 3, none⟩ = some (.int .i64 (tw (k - 1)))) := fun hp => (hcells (k - 1) (by omega)).1
      have HT : Hid (∀ wx, vld (ct k) (cl k) = true → Calls Tryz.prog 98 #[.agg #[.int .i64 (ct k), .int .i64 (cl k)]] wx (RetV (.rat (fr (ct k) (cl k))) wx)) := fun wx => HH.out.conv k wx hlt
      have HP : Hid (∀ wx u u', (∀ i, i ≤ k → vld (ct i) (cl i) = true) → RFV wx u (chSum ct cl k) → RFV wx u' (fr (ct k) (cl k)) → Calls Tryz.prog 97 #[u, u'] wx (RetV (.rat (chSum ct cl (k + 1))) wx)) := fun wx u u' => HH.out.plus k wx u u' hlt
      have HVL : Hid (∀ i, i < k → vld (ct i) (cl i) = true) := fun i hi => (brB_open (hv.out i hi)).2.2.1
      clear hcells
      generalize htk : tw k = tk at *
      generalize hck : ct k = ck at *
      generalize hlk : cl k = lk at *
      have HTK := Lib.hid htk
      have HCK := Lib.hid hck
      have HLK := Lib.hid hlk
      clear htk hck hlk
      go_upto_region 7 with fail
      generalize hY : wr.alloc _ = Y
      have hYr : Below wr.heap.size wr Y := by subst hY; exact below_alloc _ _
      obtain ⟨j0, j1, j2, j3⟩ : Bc3 Y wr.heap.size (.int .i64 tk) (.int .i64 ck) (.int .i64 lk) := by
        subst hY
        exact Bc3.new _ _ _ _ _
      have hbY : b < Y.heap.size := Nat.lt_of_lt_of_le hb hYr.size
      have HPV' : Hid (0 < k → Y.cell? ⟨b, off + (k - 1) * 3, none⟩ = some (.int .i64 (tw (k - 1)))) := fun hp => (hYr.cell (p := ⟨b, off + (k - 1) * 3, none⟩) hb).trans (HPV.out hp)
      have hbr' := Lib.hid (hbr.out.keep hYr)
      have hw6' := Lib.hid (hw6.out.keep hYr)
      have hpb' := Lib.hid (hpb.out.keep hYr)
      have hbel' := Lib.hid (hbel.out.trans (hYr.mono hbel.out.size))
      clear hY hYr hc0 hc1 hc2 hb HPV hbr hw6 hpb hbel
      have hbx : Hid (Bbx Y wr.heap.size tk ck lk) := Lib.hid ⟨j0, j1, j2, j3⟩
      have HBY := Lib.hid hbY
      obtain ⟨p2, pz⟩ := hpb'.out
      clear j3 hbY pz
      cases g1 : decide (tk < 0) with
      | true =>
        have HE : Hid (bsB ns n tw ct cl = false) := bsB_bad hlt (by rw [HC.out, g1]; rfl)
        go_quiet (fail)
        go_wp2_with fail
        go_ret
        exact ⟨by rw [HE.out]; rfl, hbel'.out.trans (Drn.below ⟨_, rfl⟩ _)⟩
      | false =>
      cases g2 : decide ((ns : Int) ≤ tk) with
      | true =>
        have HE : Hid (bsB ns n tw ct cl = false) := bsB_bad hlt (by rw [HC.out, g2]; simp)
        go_quiet (fail)
        go_wp2_with fail
        go_ret
        exact ⟨by rw [HE.out]; rfl, hbel'.out.trans (Drn.below ⟨_, rfl⟩ _)⟩
      | false =>
      clear j0 j1 j2 p2
      generalize wr.heap.size = gb at *
      rcases Nat.eq_zero_or_pos k with hk0 | hk0
      · have g3 : decide ((0 : Int) < (k : Int)) = false := by simp; omega
        have g3n : decide (0 < k) = false := by simp; omega
        have HG4 : Hid ((decide (0 < k) && decide (tk ≤ tw (k - 1))) = false) := Lib.hid (by rw [g3n]; rfl)
        clear hk0
        cases hv1 : vld ck lk with
        | false =>
          have HE : Hid (bsB ns n tw ct cl = false) := bsB_bad hlt (by rw [HC.out, hv1]; simp)
          have HVv : Hid (∀ wx, Calls Tryz.prog 95 #[.agg #[.int .i64 ck, .int .i64 lk]] wx (RetV (.val (.bool false)) wx)) := fun wx => (rvalid_any ck lk wx).mono fun e w' h => ⟨_, h.1, by rw [hv1]; rfl, h.2⟩
          clear hv1
          refine wp_region_flow 37 [33, 34, 35, 36, 37, 38, 39, 40, 41, 42, 43, 44, 45, 46, 47, 48, 49, 50, 51, 52, 53, 54, 55, 56, 57, 58, 59, 60, 61, 62, 63, 64, 65, 66, 67, 68, 69] (fun i => 33 + i) (Below Y.heap.size Y) (Spl [.val (.pointer (some ⟨gb, 0, none⟩)), .val (.int .i64 tk), .val (.bool false), .val (.bool false), .val (.pointer (some ⟨gb, 0, none⟩)), .val (.int .i64 tk), .val (.int .i64 (ns : Int)), .val (.bool false), .val (.bool false), .val (.bool false), .val (.int .i64 (k : Int)), .val (.bool false), .val (.bool false), .val undef, .val undef, .val undef, .val undef, .val undef, .val undef, .val undef, .val undef, .val undef, .val undef, .val (.bool false), .val (.bool false), .val (.bool false), .val (.pointer (some ⟨gb, 1, none⟩)), .val (.agg #[.int .i64 ck, .int .i64 lk]), .val (.bool false), .val (.bool true), .val (.bool true), .val (.bool true), .val undef, .val undef, .val undef, .val undef, .val (.bool true)]) (by kernel_rfl) (by kernel_rfl) (by kernel_rfl) (by kernel_rfl) (fun i j _ _ h => Nat.add_left_cancel (show 33 + i = 33 + j from h)) (by decide) (fun wx wy (h : Below Y.heap.size Y wx) hb => h.trans (hb.mono h.size)) Spl.keep ?_ ?_ ?_
          · exact Below.drew (Below.refl _ _)
          · intro i v wx o T' K ho hF hdep hin hout hK
            have hi : i < 37 := (Array.getElem?_eq_some_iff.1 ho).1
            have HF := Lib.hid hF
            have HD := Lib.hid hdep
            clear hF hdep
            rcases (by omega : i = 0 ∨ i = 1 ∨ i = 2 ∨ i = 3 ∨ i = 4 ∨ i = 5 ∨ i = 6 ∨ i = 7 ∨ i = 8 ∨ i = 9 ∨ i = 10 ∨ i = 11 ∨ i = 12 ∨ i = 13 ∨ i = 14 ∨ i = 15 ∨ i = 16 ∨ i = 17 ∨ i = 18 ∨ i = 19 ∨ i = 20 ∨ i = 21 ∨ i = 22 ∨ i = 23 ∨ i = 24 ∨ i = 25 ∨ i = 26 ∨ i = 27 ∨ i = 28 ∨ i = 29 ∨ i = 30 ∨ i = 31 ∨ i = 32 ∨ i = 33 ∨ i = 34 ∨ i = 35 ∨ i = 36) with rfl | rfl | rfl | rfl | rfl | rfl | rfl | rfl | rfl | rfl | rfl | rfl | rfl | rfl | rfl | rfl | rfl | rfl | rfl | rfl | rfl | rfl | rfl | rfl | rfl | rfl | rfl | rfl | rfl | rfl | rfl | rfl | rfl | rfl | rfl | rfl | rfl
            · obtain rfl := Option.some.inj ho
              have sl7 : T'[7]? = some (.pointer (some ⟨gb, 0, none⟩)) := (hout 7 (by decide)).trans rfl
              clear hin hout ho hi
              go_simp
              exact hK _ _ (Below.refl _ _) rfl
            · obtain rfl := Option.some.inj ho
              have q33 := hin 33 (by decide)
              have e1 : v 33 = (.pointer (some ⟨gb, 0, none⟩)) := HD.out ⟨0, .data⟩ (by simp) rfl
              rw [e1] at q33
              have j0 := (HF.out.cell (p := ⟨gb, 0, none⟩) hbx.out.2.2.2).trans hbx.out.1
              have hP := (rfl : (Value.int .i64 tk) = .int .i64 tk)
              clear hin hout ho hi
              go_simp
              exact hK _ _ (Below.refl _ _) hP
            · obtain rfl := Option.some.inj ho
              have q34 := hin 34 (by decide)
              have e0 : v 34 = (.int .i64 tk) := HD.out ⟨1, .data⟩ (by simp) rfl
              rw [e0] at q34
              clear hin hout ho hi
              go_simp
              exact hK _ _ (Below.refl _ _) rfl
            · obtain rfl := Option.some.inj ho
              have q35 := hin 35 (by decide)
              have e0 : v 35 = (.bool false) := HD.out ⟨2, .data⟩ (by simp) rfl
              rw [e0] at q35
              clear hin hout ho hi
              go_simp
              exact hK _ _ (Below.refl _ _) rfl
            · obtain rfl := Option.some.inj ho
              have q36 := hin 36 (by decide)
              have sl7 : T'[7]? = some (.pointer (some ⟨gb, 0, none⟩)) := (hout 7 (by decide)).trans rfl
              have eg : v 36 = (.bool false) := HD.out ⟨3, .guard⟩ (by simp) rfl
              rw [eg] at q36
              clear hin hout ho hi
              go_simp
              exact hK _ _ (Below.refl _ _) rfl
            · obtain rfl := Option.some.inj ho
              have q36 := hin 36 (by decide)
              have q37 := hin 37 (by decide)
              have eg : v 36 = (.bool false) := HD.out ⟨3, .guard⟩ (by simp) rfl
              rw [eg] at q36
              have e1 : v 37 = (.pointer (some ⟨gb, 0, none⟩)) := HD.out ⟨4, .data⟩ (by simp) rfl
              rw [e1] at q37
              have j0 := (HF.out.cell (p := ⟨gb, 0, none⟩) hbx.out.2.2.2).trans hbx.out.1
              have hP := (rfl : (Value.int .i64 tk) = .int .i64 tk)
              clear hin hout ho hi
              go_simp
              exact hK _ _ (Below.refl _ _) hP
            · obtain rfl := Option.some.inj ho
              have q36 := hin 36 (by decide)
              have sl1 : T'[1]? = some (.int .i64 (ns : Int)) := (hout 1 (by decide)).trans rfl
              have eg : v 36 = (.bool false) := HD.out ⟨3, .guard⟩ (by simp) rfl
              rw [eg] at q36
              clear hin hout ho hi
              go_simp
              exact hK _ _ (Below.refl _ _) rfl
            · obtain rfl := Option.some.inj ho
              have q36 := hin 36 (by decide)
              have q38 := hin 38 (by decide)
              have q39 := hin 39 (by decide)
              have eg : v 36 = (.bool false) := HD.out ⟨3, .guard⟩ (by simp) rfl
              rw [eg] at q36
              have e0 : v 38 = (.int .i64 tk) := HD.out ⟨5, .data⟩ (by simp) rfl
              rw [e0] at q38
              have e1 : v 39 = (.int .i64 (ns : Int)) := HD.out ⟨6, .data⟩ (by simp) rfl
              rw [e1] at q39
              clear hin hout ho hi
              go_simp
              exact hK _ _ (Below.refl _ _) rfl
            · obtain rfl := Option.some.inj ho
              have q36 := hin 36 (by decide)
              have q40 := hin 40 (by decide)
              have e0 : v 36 = (.bool false) := HD.out ⟨3, .data⟩ (by simp) rfl
              rw [e0] at q36
              have e1 : v 40 = (.bool false) := HD.out ⟨7, .data⟩ (by simp) rfl
              rw [e1] at q40
              clear hin hout ho hi
              go_simp
              exact hK _ _ (Below.refl _ _) rfl
            · obtain rfl := Option.some.inj ho
              have q41 := hin 41 (by decide)
              have e0 : v 41 = (.bool false) := HD.out ⟨8, .data⟩ (by simp) rfl
              rw [e0] at q41
              clear hin hout ho hi
              go_simp
              exact hK _ _ (Below.refl _ _) rfl
            · obtain rfl := Option.some.inj ho
              have q42 := hin 42 (by decide)
              have sl6 : T'[6]? = some (.int .i64 (k : Int)) := (hout 6 (by decide)).trans rfl
              have eg : v 42 = (.bool false) := HD.out ⟨9, .guard⟩ (by simp) rfl
              rw [eg] at q42
              clear hin hout ho hi
              go_simp
              exact hK _ _ (Below.refl _ _) rfl
            · obtain rfl := Option.some.inj ho
              have q42 := hin 42 (by decide)
              have q43 := hin 43 (by decide)
              have eg : v 42 = (.bool false) := HD.out ⟨9, .guard⟩ (by simp) rfl
              rw [eg] at q42
              have e0 : v 43 = (.int .i64 (k : Int)) := HD.out ⟨10, .data⟩ (by simp) rfl
              rw [e0] at q43
              clear hin hout ho hi
              go_simp
              exact hK _ _ (Below.refl _ _) rfl
            · obtain rfl := Option.some.inj ho
              have q42 := hin 42 (by decide)
              have q44 := hin 44 (by decide)
              have eg : v 42 = (.bool false) := HD.out ⟨9, .guard⟩ (by simp) rfl
              rw [eg] at q42
              have e0 : v 44 = (.bool false) := HD.out ⟨11, .data⟩ (by simp) rfl
              rw [e0] at q44
              clear hin hout ho hi
              go_simp
              exact hK _ _ (Below.refl _ _) rfl
            · obtain rfl := Option.some.inj ho
              have q45 := hin 45 (by decide)
              have eg : v 45 = (.bool false) := HD.out ⟨12, .guard⟩ (by simp) rfl
              rw [eg] at q45
              clear hin hout ho hi
              go_simp
              exact hK _ _ (Below.refl _ _) rfl
            · obtain rfl := Option.some.inj ho
              have q45 := hin 45 (by decide)
              have eg : v 45 = (.bool false) := HD.out ⟨12, .guard⟩ (by simp) rfl
              rw [eg] at q45
              clear hin hout ho hi
              go_simp
              exact hK _ _ (Below.refl _ _) rfl
            · obtain rfl := Option.some.inj ho
              have q45 := hin 45 (by decide)
              have eg : v 45 = (.bool false) := HD.out ⟨12, .guard⟩ (by simp) rfl
              rw [eg] at q45
              clear hin hout ho hi
              go_simp
              exact hK _ _ (Below.refl _ _) rfl
            · obtain rfl := Option.some.inj ho
              have q45 := hin 45 (by decide)
              have eg : v 45 = (.bool false) := HD.out ⟨12, .guard⟩ (by simp) rfl
              rw [eg] at q45
              clear hin hout ho hi
              go_simp
              exact hK _ _ (Below.refl _ _) rfl
            · obtain rfl := Option.some.inj ho
              have q45 := hin 45 (by decide)
              have eg : v 45 = (.bool false) := HD.out ⟨12, .guard⟩ (by simp) rfl
              rw [eg] at q45
              clear hin hout ho hi
              go_simp
              exact hK _ _ (Below.refl _ _) rfl
            · obtain rfl := Option.some.inj ho
              have q45 := hin 45 (by decide)
              have eg : v 45 = (.bool false) := HD.out ⟨12, .guard⟩ (by simp) rfl
              rw [eg] at q45
              clear hin hout ho hi
              go_simp
              exact hK _ _ (Below.refl _ _) rfl
            · obtain rfl := Option.some.inj ho
              have q45 := hin 45 (by decide)
              have eg : v 45 = (.bool false) := HD.out ⟨12, .guard⟩ (by simp) rfl
              rw [eg] at q45
              clear hin hout ho hi
              go_simp
              exact hK _ _ (Below.refl _ _) rfl
            · obtain rfl := Option.some.inj ho
              have q45 := hin 45 (by decide)
              have eg : v 45 = (.bool false) := HD.out ⟨12, .guard⟩ (by simp) rfl
              rw [eg] at q45
              clear hin hout ho hi
              go_simp
              exact hK _ _ (Below.refl _ _) rfl
            · obtain rfl := Option.some.inj ho
              have q45 := hin 45 (by decide)
              have eg : v 45 = (.bool false) := HD.out ⟨12, .guard⟩ (by simp) rfl
              rw [eg] at q45
              clear hin hout ho hi
              go_simp
              exact hK _ _ (Below.refl _ _) rfl
            · obtain rfl := Option.some.inj ho
              have q45 := hin 45 (by decide)
              have eg : v 45 = (.bool false) := HD.out ⟨12, .guard⟩ (by simp) rfl
              rw [eg] at q45
              clear hin hout ho hi
              go_simp
              exact hK _ _ (Below.refl _ _) rfl
            · obtain rfl := Option.some.inj ho
              have q42 := hin 42 (by decide)
              have q45 := hin 45 (by decide)
              have q55 := hin 55 (by decide)
              have eg : v 42 = (.bool false) := HD.out ⟨9, .guard⟩ (by simp) rfl
              rw [eg] at q42
              have e0 : v 45 = (.bool false) := HD.out ⟨12, .data⟩ (by simp) rfl
              rw [e0] at q45
              have e1 : v 55 = undef := HD.out ⟨22, .data⟩ (by simp) rfl
              rw [e1] at q55
              clear hin hout ho hi
              go_simp
              exact hK _ _ (Below.refl _ _) rfl
            · obtain rfl := Option.some.inj ho
              have q42 := hin 42 (by decide)
              have q56 := hin 56 (by decide)
              have e0 : v 42 = (.bool false) := HD.out ⟨9, .data⟩ (by simp) rfl
              rw [e0] at q42
              have e1 : v 56 = (.bool false) := HD.out ⟨23, .data⟩ (by simp) rfl
              rw [e1] at q56
              clear hin hout ho hi
              go_simp
              exact hK _ _ (Below.refl _ _) rfl
            · obtain rfl := Option.some.inj ho
              have q57 := hin 57 (by decide)
              have e0 : v 57 = (.bool false) := HD.out ⟨24, .data⟩ (by simp) rfl
              rw [e0] at q57
              clear hin hout ho hi
              go_simp
              exact hK _ _ (Below.refl _ _) rfl
            · obtain rfl := Option.some.inj ho
              have q58 := hin 58 (by decide)
              have sl7 : T'[7]? = some (.pointer (some ⟨gb, 0, none⟩)) := (hout 7 (by decide)).trans rfl
              have eg : v 58 = (.bool false) := HD.out ⟨25, .guard⟩ (by simp) rfl
              rw [eg] at q58
              clear hin hout ho hi
              go_simp
              exact hK _ _ (Below.refl _ _) rfl
            · obtain rfl := Option.some.inj ho
              have q58 := hin 58 (by decide)
              have q59 := hin 59 (by decide)
              have eg : v 58 = (.bool false) := HD.out ⟨25, .guard⟩ (by simp) rfl
              rw [eg] at q58
              have e1 : v 59 = (.pointer (some ⟨gb, 1, none⟩)) := HD.out ⟨26, .data⟩ (by simp) rfl
              rw [e1] at q59
              obtain ⟨j1, j2⟩ := And.intro ((HF.out.cell (p := ⟨gb, 1, none⟩) hbx.out.2.2.2).trans hbx.out.2.1) ((HF.out.cell (p := ⟨gb, 2, none⟩) hbx.out.2.2.2).trans hbx.out.2.2.1)
              have hP := (rfl : (Value.agg #[.int .i64 ck, .int .i64 lk]) = .agg #[.int .i64 ck, .int .i64 lk])
              clear hin hout ho hi
              go_simp
              exact hK _ _ (Below.refl _ _) hP
            · obtain rfl := Option.some.inj ho
              have q58 := hin 58 (by decide)
              have q60 := hin 60 (by decide)
              have eg : v 58 = (.bool false) := HD.out ⟨25, .guard⟩ (by simp) rfl
              rw [eg] at q58
              have e0 : v 60 = (.agg #[.int .i64 ck, .int .i64 lk]) := HD.out ⟨27, .data⟩ (by simp) rfl
              rw [e0] at q60
              clear hin hout ho hi
              go_simp
              (with_reducible refine (HVv.out _).mono ?_)
              rintro e w2 ⟨u, rfl, hu, hB⟩
              exact hK _ _ hB hu
            · obtain rfl := Option.some.inj ho
              have q58 := hin 58 (by decide)
              have q61 := hin 61 (by decide)
              have eg : v 58 = (.bool false) := HD.out ⟨25, .guard⟩ (by simp) rfl
              rw [eg] at q58
              have e0 : v 61 = (.bool false) := HD.out ⟨28, .data⟩ (by simp) rfl
              rw [e0] at q61
              clear hin hout ho hi
              go_simp
              exact hK _ _ (Below.refl _ _) rfl
            · obtain rfl := Option.some.inj ho
              have q58 := hin 58 (by decide)
              have q62 := hin 62 (by decide)
              have e0 : v 58 = (.bool false) := HD.out ⟨25, .data⟩ (by simp) rfl
              rw [e0] at q58
              have e1 : v 62 = (.bool true) := HD.out ⟨29, .data⟩ (by simp) rfl
              rw [e1] at q62
              clear hin hout ho hi
              go_simp
              exact hK _ _ (Below.refl _ _) rfl
            · obtain rfl := Option.some.inj ho
              have q63 := hin 63 (by decide)
              have e0 : v 63 = (.bool true) := HD.out ⟨30, .data⟩ (by simp) rfl
              rw [e0] at q63
              clear hin hout ho hi
              go_simp
              exact hK _ _ (Below.refl _ _) rfl
            · obtain rfl := Option.some.inj ho
              have q64 := hin 64 (by decide)
              have eg : v 64 = (.bool true) := HD.out ⟨31, .guard⟩ (by simp) rfl
              rw [eg] at q64
              clear hin hout ho hi
              go_simp
              exact hK _ _ (Below.refl _ _) rfl
            · obtain rfl := Option.some.inj ho
              have q64 := hin 64 (by decide)
              have eg : v 64 = (.bool true) := HD.out ⟨31, .guard⟩ (by simp) rfl
              rw [eg] at q64
              clear hin hout ho hi
              go_simp
              exact hK _ _ (Below.refl _ _) rfl
            · obtain rfl := Option.some.inj ho
              have q64 := hin 64 (by decide)
              have eg : v 64 = (.bool true) := HD.out ⟨31, .guard⟩ (by simp) rfl
              rw [eg] at q64
              clear hin hout ho hi
              go_simp
              exact hK _ _ (Below.refl _ _) rfl
            · obtain rfl := Option.some.inj ho
              have q64 := hin 64 (by decide)
              have eg : v 64 = (.bool true) := HD.out ⟨31, .guard⟩ (by simp) rfl
              rw [eg] at q64
              clear hin hout ho hi
              go_simp
              exact hK _ _ (Below.refl _ _) rfl
            · obtain rfl := Option.some.inj ho
              have q64 := hin 64 (by decide)
              have q68 := hin 68 (by decide)
              have e0 : v 64 = (.bool true) := HD.out ⟨31, .data⟩ (by simp) rfl
              rw [e0] at q64
              have e1 : v 68 = undef := HD.out ⟨35, .data⟩ (by simp) rfl
              rw [e1] at q68
              clear hin hout ho hi
              go_simp
              exact hK _ _ (Below.refl _ _) rfl
          · intro v wx hF hall
            have HX4 := Lib.hid hF
            have e69 : v 69 = .bool true := hall 36 (by omega)
            clear hall hF
            simp only [over, List.setIfInBounds_toArray, List.set_cons_zero, List.set_cons_succ]
            rw [e69]
            generalize v 33 = v33
            generalize v 34 = v34
            generalize v 35 = v35
            generalize v 36 = v36
            generalize v 37 = v37
            generalize v 38 = v38
            generalize v 39 = v39
            generalize v 40 = v40
            generalize v 41 = v41
            generalize v 42 = v42
            generalize v 43 = v43
            generalize v 44 = v44
            generalize v 45 = v45
            generalize v 46 = v46
            generalize v 47 = v47
            generalize v 48 = v48
            generalize v 49 = v49
            generalize v 50 = v50
            generalize v 51 = v51
            generalize v 52 = v52
            generalize v 53 = v53
            generalize v 54 = v54
            generalize v 55 = v55
            generalize v 56 = v56
            generalize v 57 = v57
            generalize v 58 = v58
            generalize v 59 = v59
            generalize v 60 = v60
            generalize v 61 = v61
            generalize v 62 = v62
            generalize v 63 = v63
            generalize v 64 = v64
            generalize v 65 = v65
            generalize v 66 = v66
            generalize v 67 = v67
            generalize v 68 = v68
            clear e69
            go_wp2_with fail
            go_ret
            exact ⟨by rw [HE.out]; rfl, hbel'.out.trans (HX4.out.mono hbel'.out.size)⟩
        | true =>
          have HVv : Hid (∀ wx, Calls Tryz.prog 95 #[.agg #[.int .i64 ck, .int .i64 lk]] wx (RetV (.val (.bool true)) wx)) := fun wx => (rvalid_any ck lk wx).mono fun e w' h => ⟨_, h.1, by rw [hv1]; rfl, h.2⟩
          have HV1 := Lib.hid hv1
          clear hv1
          refine wp_region_flow 37 [33, 34, 35, 36, 37, 38, 39, 40, 41, 42, 43, 44, 45, 46, 47, 48, 49, 50, 51, 52, 53, 54, 55, 56, 57, 58, 59, 60, 61, 62, 63, 64, 65, 66, 67, 68, 69] (fun i => 33 + i) (Below Y.heap.size Y) (Spl [.val (.pointer (some ⟨gb, 0, none⟩)), .val (.int .i64 tk), .val (.bool false), .val (.bool false), .val (.pointer (some ⟨gb, 0, none⟩)), .val (.int .i64 tk), .val (.int .i64 (ns : Int)), .val (.bool false), .val (.bool false), .val (.bool false), .val (.int .i64 (k : Int)), .val (.bool false), .val (.bool false), .val undef, .val undef, .val undef, .val undef, .val undef, .val undef, .val undef, .val undef, .val undef, .val undef, .val (.bool false), .val (.bool false), .val (.bool false), .val (.pointer (some ⟨gb, 1, none⟩)), .val (.agg #[.int .i64 ck, .int .i64 lk]), .val (.bool true), .val (.bool false), .val (.bool false), .val (.bool false), .val (.pointer (some ⟨gb, 1, none⟩)), .val (.pointer (some ⟨gb, 1, none⟩)), .val (.int .i64 ck), .val (.bool (decide (ck ≤ 0))), .val (.bool (decide (ck ≤ 0)))]) (by kernel_rfl) (by kernel_rfl) (by kernel_rfl) (by kernel_rfl) (fun i j _ _ h => Nat.add_left_cancel (show 33 + i = 33 + j from h)) (by decide) (fun wx wy (h : Below Y.heap.size Y wx) hb => h.trans (hb.mono h.size)) Spl.keep ?_ ?_ ?_
          · exact Below.drew (Below.refl _ _)
          · intro i v wx o T' K ho hF hdep hin hout hK
            have hi : i < 37 := (Array.getElem?_eq_some_iff.1 ho).1
            have HF := Lib.hid hF
            have HD := Lib.hid hdep
            clear hF hdep
            rcases (by omega : i = 0 ∨ i = 1 ∨ i = 2 ∨ i = 3 ∨ i = 4 ∨ i = 5 ∨ i = 6 ∨ i = 7 ∨ i = 8 ∨ i = 9 ∨ i = 10 ∨ i = 11 ∨ i = 12 ∨ i = 13 ∨ i = 14 ∨ i = 15 ∨ i = 16 ∨ i = 17 ∨ i = 18 ∨ i = 19 ∨ i = 20 ∨ i = 21 ∨ i = 22 ∨ i = 23 ∨ i = 24 ∨ i = 25 ∨ i = 26 ∨ i = 27 ∨ i = 28 ∨ i = 29 ∨ i = 30 ∨ i = 31 ∨ i = 32 ∨ i = 33 ∨ i = 34 ∨ i = 35 ∨ i = 36) with rfl | rfl | rfl | rfl | rfl | rfl | rfl | rfl | rfl | rfl | rfl | rfl | rfl | rfl | rfl | rfl | rfl | rfl | rfl | rfl | rfl | rfl | rfl | rfl | rfl | rfl | rfl | rfl | rfl | rfl | rfl | rfl | rfl | rfl | rfl | rfl | rfl
            · obtain rfl := Option.some.inj ho
              have sl7 : T'[7]? = some (.pointer (some ⟨gb, 0, none⟩)) := (hout 7 (by decide)).trans rfl
              clear hin hout ho hi
              go_simp
              exact hK _ _ (Below.refl _ _) rfl
            · obtain rfl := Option.some.inj ho
              have q33 := hin 33 (by decide)
              have e1 : v 33 = (.pointer (some ⟨gb, 0, none⟩)) := HD.out ⟨0, .data⟩ (by simp) rfl
              rw [e1] at q33
              have j0 := (HF.out.cell (p := ⟨gb, 0, none⟩) hbx.out.2.2.2).trans hbx.out.1
              have hP := (rfl : (Value.int .i64 tk) = .int .i64 tk)
              clear hin hout ho hi
              go_simp
              exact hK _ _ (Below.refl _ _) hP
            · obtain rfl := Option.some.inj ho
              have q34 := hin 34 (by decide)
              have e0 : v 34 = (.int .i64 tk) := HD.out ⟨1, .data⟩ (by simp) rfl
              rw [e0] at q34
              clear hin hout ho hi
              go_simp
              exact hK _ _ (Below.refl _ _) rfl
            · obtain rfl := Option.some.inj ho
              have q35 := hin 35 (by decide)
              have e0 : v 35 = (.bool false) := HD.out ⟨2, .data⟩ (by simp) rfl
              rw [e0] at q35
              clear hin hout ho hi
              go_simp
              exact hK _ _ (Below.refl _ _) rfl
            · obtain rfl := Option.some.inj ho
              have q36 := hin 36 (by decide)
              have sl7 : T'[7]? = some (.pointer (some ⟨gb, 0, none⟩)) := (hout 7 (by decide)).trans rfl
              have eg : v 36 = (.bool false) := HD.out ⟨3, .guard⟩ (by simp) rfl
              rw [eg] at q36
              clear hin hout ho hi
              go_simp
              exact hK _ _ (Below.refl _ _) rfl
            · obtain rfl := Option.some.inj ho
              have q36 := hin 36 (by decide)
              have q37 := hin 37 (by decide)
              have eg : v 36 = (.bool false) := HD.out ⟨3, .guard⟩ (by simp) rfl
              rw [eg] at q36
              have e1 : v 37 = (.pointer (some ⟨gb, 0, none⟩)) := HD.out ⟨4, .data⟩ (by simp) rfl
              rw [e1] at q37
              have j0 := (HF.out.cell (p := ⟨gb, 0, none⟩) hbx.out.2.2.2).trans hbx.out.1
              have hP := (rfl : (Value.int .i64 tk) = .int .i64 tk)
              clear hin hout ho hi
              go_simp
              exact hK _ _ (Below.refl _ _) hP
            · obtain rfl := Option.some.inj ho
              have q36 := hin 36 (by decide)
              have sl1 : T'[1]? = some (.int .i64 (ns : Int)) := (hout 1 (by decide)).trans rfl
              have eg : v 36 = (.bool false) := HD.out ⟨3, .guard⟩ (by simp) rfl
              rw [eg] at q36
              clear hin hout ho hi
              go_simp
              exact hK _ _ (Below.refl _ _) rfl
            · obtain rfl := Option.some.inj ho
              have q36 := hin 36 (by decide)
              have q38 := hin 38 (by decide)
              have q39 := hin 39 (by decide)
              have eg : v 36 = (.bool false) := HD.out ⟨3, .guard⟩ (by simp) rfl
              rw [eg] at q36
              have e0 : v 38 = (.int .i64 tk) := HD.out ⟨5, .data⟩ (by simp) rfl
              rw [e0] at q38
              have e1 : v 39 = (.int .i64 (ns : Int)) := HD.out ⟨6, .data⟩ (by simp) rfl
              rw [e1] at q39
              clear hin hout ho hi
              go_simp
              exact hK _ _ (Below.refl _ _) rfl
            · obtain rfl := Option.some.inj ho
              have q36 := hin 36 (by decide)
              have q40 := hin 40 (by decide)
              have e0 : v 36 = (.bool false) := HD.out ⟨3, .data⟩ (by simp) rfl
              rw [e0] at q36
              have e1 : v 40 = (.bool false) := HD.out ⟨7, .data⟩ (by simp) rfl
              rw [e1] at q40
              clear hin hout ho hi
              go_simp
              exact hK _ _ (Below.refl _ _) rfl
            · obtain rfl := Option.some.inj ho
              have q41 := hin 41 (by decide)
              have e0 : v 41 = (.bool false) := HD.out ⟨8, .data⟩ (by simp) rfl
              rw [e0] at q41
              clear hin hout ho hi
              go_simp
              exact hK _ _ (Below.refl _ _) rfl
            · obtain rfl := Option.some.inj ho
              have q42 := hin 42 (by decide)
              have sl6 : T'[6]? = some (.int .i64 (k : Int)) := (hout 6 (by decide)).trans rfl
              have eg : v 42 = (.bool false) := HD.out ⟨9, .guard⟩ (by simp) rfl
              rw [eg] at q42
              clear hin hout ho hi
              go_simp
              exact hK _ _ (Below.refl _ _) rfl
            · obtain rfl := Option.some.inj ho
              have q42 := hin 42 (by decide)
              have q43 := hin 43 (by decide)
              have eg : v 42 = (.bool false) := HD.out ⟨9, .guard⟩ (by simp) rfl
              rw [eg] at q42
              have e0 : v 43 = (.int .i64 (k : Int)) := HD.out ⟨10, .data⟩ (by simp) rfl
              rw [e0] at q43
              clear hin hout ho hi
              go_simp
              exact hK _ _ (Below.refl _ _) rfl
            · obtain rfl := Option.some.inj ho
              have q42 := hin 42 (by decide)
              have q44 := hin 44 (by decide)
              have eg : v 42 = (.bool false) := HD.out ⟨9, .guard⟩ (by simp) rfl
              rw [eg] at q42
              have e0 : v 44 = (.bool false) := HD.out ⟨11, .data⟩ (by simp) rfl
              rw [e0] at q44
              clear hin hout ho hi
              go_simp
              exact hK _ _ (Below.refl _ _) rfl
            · obtain rfl := Option.some.inj ho
              have q45 := hin 45 (by decide)
              have eg : v 45 = (.bool false) := HD.out ⟨12, .guard⟩ (by simp) rfl
              rw [eg] at q45
              clear hin hout ho hi
              go_simp
              exact hK _ _ (Below.refl _ _) rfl
            · obtain rfl := Option.some.inj ho
              have q45 := hin 45 (by decide)
              have eg : v 45 = (.bool false) := HD.out ⟨12, .guard⟩ (by simp) rfl
              rw [eg] at q45
              clear hin hout ho hi
              go_simp
              exact hK _ _ (Below.refl _ _) rfl
            · obtain rfl := Option.some.inj ho
              have q45 := hin 45 (by decide)
              have eg : v 45 = (.bool false) := HD.out ⟨12, .guard⟩ (by simp) rfl
              rw [eg] at q45
              clear hin hout ho hi
              go_simp
              exact hK _ _ (Below.refl _ _) rfl
            · obtain rfl := Option.some.inj ho
              have q45 := hin 45 (by decide)
              have eg : v 45 = (.bool false) := HD.out ⟨12, .guard⟩ (by simp) rfl
              rw [eg] at q45
              clear hin hout ho hi
              go_simp
              exact hK _ _ (Below.refl _ _) rfl
            · obtain rfl := Option.some.inj ho
              have q45 := hin 45 (by decide)
              have eg : v 45 = (.bool false) := HD.out ⟨12, .guard⟩ (by simp) rfl
              rw [eg] at q45
              clear hin hout ho hi
              go_simp
              exact hK _ _ (Below.refl _ _) rfl
            · obtain rfl := Option.some.inj ho
              have q45 := hin 45 (by decide)
              have eg : v 45 = (.bool false) := HD.out ⟨12, .guard⟩ (by simp) rfl
              rw [eg] at q45
              clear hin hout ho hi
              go_simp
              exact hK _ _ (Below.refl _ _) rfl
            · obtain rfl := Option.some.inj ho
              have q45 := hin 45 (by decide)
              have eg : v 45 = (.bool false) := HD.out ⟨12, .guard⟩ (by simp) rfl
              rw [eg] at q45
              clear hin hout ho hi
              go_simp
              exact hK _ _ (Below.refl _ _) rfl
            · obtain rfl := Option.some.inj ho
              have q45 := hin 45 (by decide)
              have eg : v 45 = (.bool false) := HD.out ⟨12, .guard⟩ (by simp) rfl
              rw [eg] at q45
              clear hin hout ho hi
              go_simp
              exact hK _ _ (Below.refl _ _) rfl
            · obtain rfl := Option.some.inj ho
              have q45 := hin 45 (by decide)
              have eg : v 45 = (.bool false) := HD.out ⟨12, .guard⟩ (by simp) rfl
              rw [eg] at q45
              clear hin hout ho hi
              go_simp
              exact hK _ _ (Below.refl _ _) rfl
            · obtain rfl := Option.some.inj ho
              have q45 := hin 45 (by decide)
              have eg : v 45 = (.bool false) := HD.out ⟨12, .guard⟩ (by simp) rfl
              rw [eg] at q45
              clear hin hout ho hi
              go_simp
              exact hK _ _ (Below.refl _ _) rfl
            · obtain rfl := Option.some.inj ho
              have q42 := hin 42 (by decide)
              have q45 := hin 45 (by decide)
              have q55 := hin 55 (by decide)
              have eg : v 42 = (.bool false) := HD.out ⟨9, .guard⟩ (by simp) rfl
              rw [eg] at q42
              have e0 : v 45 = (.bool false) := HD.out ⟨12, .data⟩ (by simp) rfl
              rw [e0] at q45
              have e1 : v 55 = undef := HD.out ⟨22, .data⟩ (by simp) rfl
              rw [e1] at q55
              clear hin hout ho hi
              go_simp
              exact hK _ _ (Below.refl _ _) rfl
            · obtain rfl := Option.some.inj ho
              have q42 := hin 42 (by decide)
              have q56 := hin 56 (by decide)
              have e0 : v 42 = (.bool false) := HD.out ⟨9, .data⟩ (by simp) rfl
              rw [e0] at q42
              have e1 : v 56 = (.bool false) := HD.out ⟨23, .data⟩ (by simp) rfl
              rw [e1] at q56
              clear hin hout ho hi
              go_simp
              exact hK _ _ (Below.refl _ _) rfl
            · obtain rfl := Option.some.inj ho
              have q57 := hin 57 (by decide)
              have e0 : v 57 = (.bool false) := HD.out ⟨24, .data⟩ (by simp) rfl
              rw [e0] at q57
              clear hin hout ho hi
              go_simp
              exact hK _ _ (Below.refl _ _) rfl
            · obtain rfl := Option.some.inj ho
              have q58 := hin 58 (by decide)
              have sl7 : T'[7]? = some (.pointer (some ⟨gb, 0, none⟩)) := (hout 7 (by decide)).trans rfl
              have eg : v 58 = (.bool false) := HD.out ⟨25, .guard⟩ (by simp) rfl
              rw [eg] at q58
              clear hin hout ho hi
              go_simp
              exact hK _ _ (Below.refl _ _) rfl
            · obtain rfl := Option.some.inj ho
              have q58 := hin 58 (by decide)
              have q59 := hin 59 (by decide)
              have eg : v 58 = (.bool false) := HD.out ⟨25, .guard⟩ (by simp) rfl
              rw [eg] at q58
              have e1 : v 59 = (.pointer (some ⟨gb, 1, none⟩)) := HD.out ⟨26, .data⟩ (by simp) rfl
              rw [e1] at q59
              obtain ⟨j1, j2⟩ := And.intro ((HF.out.cell (p := ⟨gb, 1, none⟩) hbx.out.2.2.2).trans hbx.out.2.1) ((HF.out.cell (p := ⟨gb, 2, none⟩) hbx.out.2.2.2).trans hbx.out.2.2.1)
              have hP := (rfl : (Value.agg #[.int .i64 ck, .int .i64 lk]) = .agg #[.int .i64 ck, .int .i64 lk])
              clear hin hout ho hi
              go_simp
              exact hK _ _ (Below.refl _ _) hP
            · obtain rfl := Option.some.inj ho
              have q58 := hin 58 (by decide)
              have q60 := hin 60 (by decide)
              have eg : v 58 = (.bool false) := HD.out ⟨25, .guard⟩ (by simp) rfl
              rw [eg] at q58
              have e0 : v 60 = (.agg #[.int .i64 ck, .int .i64 lk]) := HD.out ⟨27, .data⟩ (by simp) rfl
              rw [e0] at q60
              clear hin hout ho hi
              go_simp
              (with_reducible refine (HVv.out _).mono ?_)
              rintro e w2 ⟨u, rfl, hu, hB⟩
              exact hK _ _ hB hu
            · obtain rfl := Option.some.inj ho
              have q58 := hin 58 (by decide)
              have q61 := hin 61 (by decide)
              have eg : v 58 = (.bool false) := HD.out ⟨25, .guard⟩ (by simp) rfl
              rw [eg] at q58
              have e0 : v 61 = (.bool true) := HD.out ⟨28, .data⟩ (by simp) rfl
              rw [e0] at q61
              clear hin hout ho hi
              go_simp
              exact hK _ _ (Below.refl _ _) rfl
            · obtain rfl := Option.some.inj ho
              have q58 := hin 58 (by decide)
              have q62 := hin 62 (by decide)
              have e0 : v 58 = (.bool false) := HD.out ⟨25, .data⟩ (by simp) rfl
              rw [e0] at q58
              have e1 : v 62 = (.bool false) := HD.out ⟨29, .data⟩ (by simp) rfl
              rw [e1] at q62
              clear hin hout ho hi
              go_simp
              exact hK _ _ (Below.refl _ _) rfl
            · obtain rfl := Option.some.inj ho
              have q63 := hin 63 (by decide)
              have e0 : v 63 = (.bool false) := HD.out ⟨30, .data⟩ (by simp) rfl
              rw [e0] at q63
              clear hin hout ho hi
              go_simp
              exact hK _ _ (Below.refl _ _) rfl
            · obtain rfl := Option.some.inj ho
              have q64 := hin 64 (by decide)
              have sl7 : T'[7]? = some (.pointer (some ⟨gb, 0, none⟩)) := (hout 7 (by decide)).trans rfl
              have eg : v 64 = (.bool false) := HD.out ⟨31, .guard⟩ (by simp) rfl
              rw [eg] at q64
              clear hin hout ho hi
              go_simp
              exact hK _ _ (Below.refl _ _) rfl
            · obtain rfl := Option.some.inj ho
              have q64 := hin 64 (by decide)
              have q65 := hin 65 (by decide)
              have eg : v 64 = (.bool false) := HD.out ⟨31, .guard⟩ (by simp) rfl
              rw [eg] at q64
              have e0 : v 65 = (.pointer (some ⟨gb, 1, none⟩)) := HD.out ⟨32, .data⟩ (by simp) rfl
              rw [e0] at q65
              clear hin hout ho hi
              go_simp
              exact hK _ _ (Below.refl _ _) rfl
            · obtain rfl := Option.some.inj ho
              have q64 := hin 64 (by decide)
              have q66 := hin 66 (by decide)
              have eg : v 64 = (.bool false) := HD.out ⟨31, .guard⟩ (by simp) rfl
              rw [eg] at q64
              have e1 : v 66 = (.pointer (some ⟨gb, 1, none⟩)) := HD.out ⟨33, .data⟩ (by simp) rfl
              rw [e1] at q66
              have j1 := (HF.out.cell (p := ⟨gb, 1, none⟩) hbx.out.2.2.2).trans hbx.out.2.1
              have hP := (rfl : (Value.int .i64 ck) = .int .i64 ck)
              clear hin hout ho hi
              go_simp
              exact hK _ _ (Below.refl _ _) hP
            · obtain rfl := Option.some.inj ho
              have q64 := hin 64 (by decide)
              have q67 := hin 67 (by decide)
              have eg : v 64 = (.bool false) := HD.out ⟨31, .guard⟩ (by simp) rfl
              rw [eg] at q64
              have e0 : v 67 = (.int .i64 ck) := HD.out ⟨34, .data⟩ (by simp) rfl
              rw [e0] at q67
              clear hin hout ho hi
              go_simp
              exact hK _ _ (Below.refl _ _) rfl
            · obtain rfl := Option.some.inj ho
              have q64 := hin 64 (by decide)
              have q68 := hin 68 (by decide)
              have e0 : v 64 = (.bool false) := HD.out ⟨31, .data⟩ (by simp) rfl
              rw [e0] at q64
              have e1 : v 68 = (.bool (decide (ck ≤ 0))) := HD.out ⟨35, .data⟩ (by simp) rfl
              rw [e1] at q68
              clear hin hout ho hi
              go_simp
              exact hK _ _ (Below.refl _ _) rfl
          · intro v wx hF hall
            have HX4 := Lib.hid hF
            have e69 : v 69 = .bool (decide (ck ≤ 0)) := hall 36 (by omega)
            clear hall hF
            simp only [over, List.setIfInBounds_toArray, List.set_cons_zero, List.set_cons_succ]
            rw [e69]
            generalize v 33 = v33
            generalize v 34 = v34
            generalize v 35 = v35
            generalize v 36 = v36
            generalize v 37 = v37
            generalize v 38 = v38
            generalize v 39 = v39
            generalize v 40 = v40
            generalize v 41 = v41
            generalize v 42 = v42
            generalize v 43 = v43
            generalize v 44 = v44
            generalize v 45 = v45
            generalize v 46 = v46
            generalize v 47 = v47
            generalize v 48 = v48
            generalize v 49 = v49
            generalize v 50 = v50
            generalize v 51 = v51
            generalize v 52 = v52
            generalize v 53 = v53
            generalize v 54 = v54
            generalize v 55 = v55
            generalize v 56 = v56
            generalize v 57 = v57
            generalize v 58 = v58
            generalize v 59 = v59
            generalize v 60 = v60
            generalize v 61 = v61
            generalize v 62 = v62
            generalize v 63 = v63
            generalize v 64 = v64
            generalize v 65 = v65
            generalize v 66 = v66
            generalize v 67 = v67
            generalize v 68 = v68
            clear e69
            cases g5 : decide (ck ≤ 0) with
            | true =>
              have HE : Hid (bsB ns n tw ct cl = false) := bsB_bad hlt (by rw [HC.out, g5]; simp)
              go_wp2_with fail
              go_ret
              exact ⟨by rw [HE.out]; rfl, hbel'.out.trans (HX4.out.mono hbel'.out.size)⟩
            | false =>
              have HVV : Hid (∀ i, i < k + 1 → brB ns tw ct cl i = true) := fun i hi => by
                by_cases e : i = k
                · rw [e, HC.out, g1, g2, HV1.out, g5, HG4.out]; rfl
                · exact hv.out i (by omega)
              have HZ := Lib.hid (hbel'.out.trans (HX4.out.mono hbel'.out.size))
              have hbrz := Lib.hid (hbr'.out.keep HX4.out)
              have hwz := Lib.hid (hw6'.out.keep HX4.out)
              have hpz := Lib.hid (hpb'.out.keep HX4.out)
              have hbz := Lib.hid (hbx.out.keep HX4.out)
              have HTv : Hid (∀ wx, Calls Tryz.prog 98 #[.agg #[.int .i64 ck, .int .i64 lk]] wx (RetV (.rat (fr ck lk)) wx)) := fun wx => HT.out wx HV1.out
              have HPv : Hid (∀ wx u u', RFV wx u (chSum ct cl k) → RFV wx u' (fr ck lk) → Calls Tryz.prog 97 #[u, u'] wx (RetV (.rat (chSum ct cl (k + 1))) wx)) := fun wx u u' => HP.out wx u u' (fun i hi => by
                by_cases e : i = k
                · rw [e, HCK.out, HLK.out]; exact HV1.out
                · exact HVL.out i (by omega))
              clear HX4 hbel' hbr' hw6' hpb' hbx HT HP HV1 hv HC HPV' HVv g5
              go_upto_region 9 with fail
              generalize hZZ : wx = Z at *
              clear hZZ
              generalize hx0 : chSum ct cl k = x0 at *
              obtain ⟨x1, hx1⟩ : ∃ x1, Hid (chSum ct cl (k + 1) = x1) := ⟨_, rfl⟩
              rw [hx1.out] at HPv
              generalize fr ck lk = fk at *
              obtain ⟨s1, neg1, A1, n1, c1, s2, neg2, A2, n2, c2, hB6, hR1, hR2⟩ := hbrz.out
              have HBX := Lib.hid hB6
              have HR := Lib.hid (And.intro hR1 hR2)
              clear hB6 hR1 hR2 hbrz hx0
              refine wp_region_flow_store 5 [70, 71, 72, 73, 74] (fun i => 70 + i) (Below Z.heap.size Z) (EndC w (some ⟨b, off, none⟩) n c g0 x1) (Spl [.rat x0, .val (.pointer (some ⟨gb, 1, none⟩)), .val (.agg #[.int .i64 ck, .int .i64 lk]), .rat fk, .rat x1]) (by kernel_rfl) (by kernel_rfl) (by kernel_rfl) (by kernel_rfl) (by kernel_rfl) (fun i j _ _ h => Nat.add_left_cancel (show 70 + i = 70 + j from h)) (by decide) (fun wx wy (h : Below Z.heap.size Z wx) hb => h.trans (hb.mono h.size)) Spl.keep ?_ ?_ ?_ ?_
              · exact Below.drew (Below.refl _ _)
              · intro i v wx o T' K hi ho hF hdep hin hout hK
                have HF := Lib.hid hF
                have HD := Lib.hid hdep
                clear hF hdep
                rcases (by omega : i = 0 ∨ i = 1 ∨ i = 2 ∨ i = 3 ∨ i = 4) with rfl | rfl | rfl | rfl | rfl
                · obtain rfl := Option.some.inj ho
                  have sl5 : T'[5]? = some (.pointer (some ⟨g0, 0, none⟩)) := (hout 5 (by decide)).trans rfl
                  obtain ⟨k0, k1, k2, k3, k4, k5, -⟩ := HBX.out.keep HF.out
                  have hP := (⟨s1, neg1, A1, n1, c1, s2, neg2, A2, n2, c2, rfl, HR.out.1.keep HF.out, HR.out.2.keep HF.out⟩ : RFV wx (.agg #[.int .i64 s1, .bool neg1, .slice A1 n1 c1, .int .i64 s2, .bool neg2, .slice A2 n2 c2]) x0)
                  clear hin hout ho hi
                  go_simp
                  exact hK _ _ (Below.refl _ _) hP
                · obtain rfl := Option.some.inj ho
                  have sl7 : T'[7]? = some (.pointer (some ⟨gb, 0, none⟩)) := (hout 7 (by decide)).trans rfl
                  clear hin hout ho hi
                  go_simp
                  exact hK _ _ (Below.refl _ _) rfl
                · obtain rfl := Option.some.inj ho
                  have q71 := hin 71 (by decide)
                  have e1 : v 71 = (.pointer (some ⟨gb, 1, none⟩)) := HD.out ⟨1, .data⟩ (by simp) rfl
                  rw [e1] at q71
                  obtain ⟨j0, j1⟩ := And.intro ((HF.out.cell (p := ⟨gb, 1, none⟩) hbz.out.2.2.2).trans hbz.out.2.1) ((HF.out.cell (p := ⟨gb, 2, none⟩) hbz.out.2.2.2).trans hbz.out.2.2.1)
                  have hP := (rfl : (Value.agg #[.int .i64 ck, .int .i64 lk]) = .agg #[.int .i64 ck, .int .i64 lk])
                  clear hin hout ho hi
                  go_simp
                  exact hK _ _ (Below.refl _ _) hP
                · obtain rfl := Option.some.inj ho
                  have q72 := hin 72 (by decide)
                  have e0 : v 72 = (.agg #[.int .i64 ck, .int .i64 lk]) := HD.out ⟨2, .data⟩ (by simp) rfl
                  rw [e0] at q72
                  clear hin hout ho hi
                  go_simp
                  (with_reducible refine (HTv.out _).mono ?_)
                  rintro e w2 ⟨u, rfl, hu, hB⟩
                  exact hK _ _ hB hu
                · obtain rfl := Option.some.inj ho
                  have q70 := hin 70 (by decide)
                  have q73 := hin 73 (by decide)
                  have h0 : RFV wx (v 70) x0 := HD.out ⟨0, .data⟩ (by simp) rfl
                  have h1 : RFV wx (v 73) fk := HD.out ⟨3, .data⟩ (by simp) rfl
                  clear hin hout ho hi
                  go_simp
                  (with_reducible refine (HPv.out _ _ _ h0 h1).mono ?_)
                  rintro e w2 ⟨u, rfl, hu, hB⟩
                  exact hK _ _ hB hu
              · intro v wx o T' K ho hF hall hin hout hK
                obtain rfl := Option.some.inj ho
                have sl5 : T'[5]? = some (.pointer (some ⟨g0, 0, none⟩)) := (hout 5 (by decide)).trans rfl
                have q74 := hin 74 (by decide)
                have h0 : RFV wx (v 74) x1 := hall 4 (by decide)
                clear hin hout hall ho
                obtain ⟨s5, n5, A5, m5, c5, s6, n6, A6, m6, c6, e5, h5, h6⟩ := h0
                rw [e5] at q74
                have HRR := Lib.hid (chEnd hlg HZ.out hF (hwz.out.keep hF) (hpz.out.keep hF) h5 h6)
                obtain ⟨⟨o0, o1, o2, o3, o4, o5, p0, p1, p2, p3, p4, p5⟩, ⟨f0, f1, f2, f3, f4, f5⟩, -⟩ := hwz.out.keep hF
                clear e5 h5 h6 hF
                go_simp
                exact hK _ HRR.out
              · intro v wx hE
                have HE := Lib.hid hE
                clear hE
                simp only [over, List.setIfInBounds_toArray, List.set_cons_zero, List.set_cons_succ]
                generalize v 70 = v70
                generalize v 71 = v71
                generalize v 72 = v72
                generalize v 73 = v73
                generalize v 74 = v74
                go_wp2_with fail
                exact ⟨⟨k + 1, Lib.hid (by omega), by rw [show ((k + 1 : Nat) : Int) = (k : Int) + 1 from by omega], HVV, Lib.hid (by show BR _ _ _; rw [hx1.out]; exact HE.out.1), Lib.hid HE.out.2.1, Lib.hid HE.out.2.2.1, Lib.hid HE.out.2.2.2⟩, by simp [intOf]; omega⟩
      · obtain ⟨j, hj⟩ : ∃ j, k = j + 1 := ⟨k - 1, by omega⟩
        have g3 : decide ((0 : Int) < (k : Int)) = true := by simp; omega
        have g3n : decide (0 < k) = true := by simp; omega
        have HK1 : Hid (decide (0 < k) = true) := g3n
        have hwrap : IntKind.i64.wrap (j : Int) = (j : Int) := by rw [IntKind.wrap_i64]; omega
        have hsub : (k : Int) - 1 = (j : Int) := by omega
        have hj0 : (0 : Int) ≤ (j : Int) := by omega
        have hjn : (j : Int) < (n : Int) := by omega
        have HPK := HPV'.out hk0
        rw [show k - 1 = j from by omega] at HPK HC
        generalize tw j = pk at HPK HC
        have HPK := Lib.hid HPK
        clear hj hk0
        cases g4 : decide (tk ≤ pk) with
        | true =>
        have HG4 := Lib.hid g4
        have HE : Hid (bsB ns n tw ct cl = false) := bsB_bad hlt (by rw [HC.out]; simp only [HK1.out, HG4.out]; simp)
        refine wp_region_flow 37 [33, 34, 35, 36, 37, 38, 39, 40, 41, 42, 43, 44, 45, 46, 47, 48, 49, 50, 51, 52, 53, 54, 55, 56, 57, 58, 59, 60, 61, 62, 63, 64, 65, 66, 67, 68, 69] (fun i => 33 + i) (Below Y.heap.size Y) (Spl [.val (.pointer (some ⟨gb, 0, none⟩)), .val (.int .i64 tk), .val (.bool false), .val (.bool false), .val (.pointer (some ⟨gb, 0, none⟩)), .val (.int .i64 tk), .val (.int .i64 (ns : Int)), .val (.bool false), .val (.bool false), .val (.bool false), .val (.int .i64 (k : Int)), .val (.bool true), .val (.bool true), .val (.pointer (some ⟨gb, 0, none⟩)), .val (.int .i64 tk), .val (.pointer (some ⟨w.heap.size, 2, none⟩)), .val (.slice (some ⟨b, off, none⟩) n c), .val (.int .i64 (k : Int)), .val (.int .i64 (j : Int)), .val (.pointer (some ⟨b, off + j * 3, none⟩)), .val (.pointer (some ⟨b, off + j * 3, none⟩)), .val (.int .i64 pk), .val (.bool true), .val (.bool true), .val (.bool true), .val (.bool true), .val undef, .val undef, .val undef, .val undef, .val (.bool true), .val (.bool true), .val undef, .val undef, .val undef, .val undef, .val (.bool true)]) (by kernel_rfl) (by kernel_rfl) (by kernel_rfl) (by kernel_rfl) (fun i j _ _ h => Nat.add_left_cancel (show 33 + i = 33 + j from h)) (by decide) (fun wx wy (h : Below Y.heap.size Y wx) hb => h.trans (hb.mono h.size)) Spl.keep ?_ ?_ ?_
        · exact Below.drew (Below.refl _ _)
        · intro i v wx o T' K ho hF hdep hin hout hK
          have hi : i < 37 := (Array.getElem?_eq_some_iff.1 ho).1
          have HF := Lib.hid hF
          have HD := Lib.hid hdep
          clear hF hdep
          rcases (by omega : i = 0 ∨ i = 1 ∨ i = 2 ∨ i = 3 ∨ i = 4 ∨ i = 5 ∨ i = 6 ∨ i = 7 ∨ i = 8 ∨ i = 9 ∨ i = 10 ∨ i = 11 ∨ i = 12 ∨ i = 13 ∨ i = 14 ∨ i = 15 ∨ i = 16 ∨ i = 17 ∨ i = 18 ∨ i = 19 ∨ i = 20 ∨ i = 21 ∨ i = 22 ∨ i = 23 ∨ i = 24 ∨ i = 25 ∨ i = 26 ∨ i = 27 ∨ i = 28 ∨ i = 29 ∨ i = 30 ∨ i = 31 ∨ i = 32 ∨ i = 33 ∨ i = 34 ∨ i = 35 ∨ i = 36) with rfl | rfl | rfl | rfl | rfl | rfl | rfl | rfl | rfl | rfl | rfl | rfl | rfl | rfl | rfl | rfl | rfl | rfl | rfl | rfl | rfl | rfl | rfl | rfl | rfl | rfl | rfl | rfl | rfl | rfl | rfl | rfl | rfl | rfl | rfl | rfl | rfl
          · obtain rfl := Option.some.inj ho
            have sl7 : T'[7]? = some (.pointer (some ⟨gb, 0, none⟩)) := (hout 7 (by decide)).trans rfl
            clear hin hout ho hi
            go_simp
            exact hK _ _ (Below.refl _ _) rfl
          · obtain rfl := Option.some.inj ho
            have q33 := hin 33 (by decide)
            have e1 : v 33 = (.pointer (some ⟨gb, 0, none⟩)) := HD.out ⟨0, .data⟩ (by simp) rfl
            rw [e1] at q33
            have j0 := (HF.out.cell (p := ⟨gb, 0, none⟩) hbx.out.2.2.2).trans hbx.out.1
            have hP := (rfl : (Value.int .i64 tk) = .int .i64 tk)
            clear hin hout ho hi
            go_simp
            exact hK _ _ (Below.refl _ _) hP
          · obtain rfl := Option.some.inj ho
            have q34 := hin 34 (by decide)
            have e0 : v 34 = (.int .i64 tk) := HD.out ⟨1, .data⟩ (by simp) rfl
            rw [e0] at q34
            clear hin hout ho hi
            go_simp
            exact hK _ _ (Below.refl _ _) rfl
          · obtain rfl := Option.some.inj ho
            have q35 := hin 35 (by decide)
            have e0 : v 35 = (.bool false) := HD.out ⟨2, .data⟩ (by simp) rfl
            rw [e0] at q35
            clear hin hout ho hi
            go_simp
            exact hK _ _ (Below.refl _ _) rfl
          · obtain rfl := Option.some.inj ho
            have q36 := hin 36 (by decide)
            have sl7 : T'[7]? = some (.pointer (some ⟨gb, 0, none⟩)) := (hout 7 (by decide)).trans rfl
            have eg : v 36 = (.bool false) := HD.out ⟨3, .guard⟩ (by simp) rfl
            rw [eg] at q36
            clear hin hout ho hi
            go_simp
            exact hK _ _ (Below.refl _ _) rfl
          · obtain rfl := Option.some.inj ho
            have q36 := hin 36 (by decide)
            have q37 := hin 37 (by decide)
            have eg : v 36 = (.bool false) := HD.out ⟨3, .guard⟩ (by simp) rfl
            rw [eg] at q36
            have e1 : v 37 = (.pointer (some ⟨gb, 0, none⟩)) := HD.out ⟨4, .data⟩ (by simp) rfl
            rw [e1] at q37
            have j0 := (HF.out.cell (p := ⟨gb, 0, none⟩) hbx.out.2.2.2).trans hbx.out.1
            have hP := (rfl : (Value.int .i64 tk) = .int .i64 tk)
            clear hin hout ho hi
            go_simp
            exact hK _ _ (Below.refl _ _) hP
          · obtain rfl := Option.some.inj ho
            have q36 := hin 36 (by decide)
            have sl1 : T'[1]? = some (.int .i64 (ns : Int)) := (hout 1 (by decide)).trans rfl
            have eg : v 36 = (.bool false) := HD.out ⟨3, .guard⟩ (by simp) rfl
            rw [eg] at q36
            clear hin hout ho hi
            go_simp
            exact hK _ _ (Below.refl _ _) rfl
          · obtain rfl := Option.some.inj ho
            have q36 := hin 36 (by decide)
            have q38 := hin 38 (by decide)
            have q39 := hin 39 (by decide)
            have eg : v 36 = (.bool false) := HD.out ⟨3, .guard⟩ (by simp) rfl
            rw [eg] at q36
            have e0 : v 38 = (.int .i64 tk) := HD.out ⟨5, .data⟩ (by simp) rfl
            rw [e0] at q38
            have e1 : v 39 = (.int .i64 (ns : Int)) := HD.out ⟨6, .data⟩ (by simp) rfl
            rw [e1] at q39
            clear hin hout ho hi
            go_simp
            exact hK _ _ (Below.refl _ _) rfl
          · obtain rfl := Option.some.inj ho
            have q36 := hin 36 (by decide)
            have q40 := hin 40 (by decide)
            have e0 : v 36 = (.bool false) := HD.out ⟨3, .data⟩ (by simp) rfl
            rw [e0] at q36
            have e1 : v 40 = (.bool false) := HD.out ⟨7, .data⟩ (by simp) rfl
            rw [e1] at q40
            clear hin hout ho hi
            go_simp
            exact hK _ _ (Below.refl _ _) rfl
          · obtain rfl := Option.some.inj ho
            have q41 := hin 41 (by decide)
            have e0 : v 41 = (.bool false) := HD.out ⟨8, .data⟩ (by simp) rfl
            rw [e0] at q41
            clear hin hout ho hi
            go_simp
            exact hK _ _ (Below.refl _ _) rfl
          · obtain rfl := Option.some.inj ho
            have q42 := hin 42 (by decide)
            have sl6 : T'[6]? = some (.int .i64 (k : Int)) := (hout 6 (by decide)).trans rfl
            have eg : v 42 = (.bool false) := HD.out ⟨9, .guard⟩ (by simp) rfl
            rw [eg] at q42
            clear hin hout ho hi
            go_simp
            exact hK _ _ (Below.refl _ _) rfl
          · obtain rfl := Option.some.inj ho
            have q42 := hin 42 (by decide)
            have q43 := hin 43 (by decide)
            have eg : v 42 = (.bool false) := HD.out ⟨9, .guard⟩ (by simp) rfl
            rw [eg] at q42
            have e0 : v 43 = (.int .i64 (k : Int)) := HD.out ⟨10, .data⟩ (by simp) rfl
            rw [e0] at q43
            clear hin hout ho hi
            go_simp
            exact hK _ _ (Below.refl _ _) rfl
          · obtain rfl := Option.some.inj ho
            have q42 := hin 42 (by decide)
            have q44 := hin 44 (by decide)
            have eg : v 42 = (.bool false) := HD.out ⟨9, .guard⟩ (by simp) rfl
            rw [eg] at q42
            have e0 : v 44 = (.bool true) := HD.out ⟨11, .data⟩ (by simp) rfl
            rw [e0] at q44
            clear hin hout ho hi
            go_simp
            exact hK _ _ (Below.refl _ _) rfl
          · obtain rfl := Option.some.inj ho
            have q45 := hin 45 (by decide)
            have sl7 : T'[7]? = some (.pointer (some ⟨gb, 0, none⟩)) := (hout 7 (by decide)).trans rfl
            have eg : v 45 = (.bool true) := HD.out ⟨12, .guard⟩ (by simp) rfl
            rw [eg] at q45
            clear hin hout ho hi
            go_simp
            exact hK _ _ (Below.refl _ _) rfl
          · obtain rfl := Option.some.inj ho
            have q45 := hin 45 (by decide)
            have q46 := hin 46 (by decide)
            have eg : v 45 = (.bool true) := HD.out ⟨12, .guard⟩ (by simp) rfl
            rw [eg] at q45
            have e1 : v 46 = (.pointer (some ⟨gb, 0, none⟩)) := HD.out ⟨13, .data⟩ (by simp) rfl
            rw [e1] at q46
            have j0 := (HF.out.cell (p := ⟨gb, 0, none⟩) hbx.out.2.2.2).trans hbx.out.1
            have hP := (rfl : (Value.int .i64 tk) = .int .i64 tk)
            clear hin hout ho hi
            go_simp
            exact hK _ _ (Below.refl _ _) hP
          · obtain rfl := Option.some.inj ho
            have q45 := hin 45 (by decide)
            have sl2 : T'[2]? = some (.pointer (some ⟨w.heap.size, 0, none⟩)) := (hout 2 (by decide)).trans rfl
            have eg : v 45 = (.bool true) := HD.out ⟨12, .guard⟩ (by simp) rfl
            rw [eg] at q45
            clear hin hout ho hi
            go_simp
            exact hK _ _ (Below.refl _ _) rfl
          · obtain rfl := Option.some.inj ho
            have q45 := hin 45 (by decide)
            have q48 := hin 48 (by decide)
            have eg : v 45 = (.bool true) := HD.out ⟨12, .guard⟩ (by simp) rfl
            rw [eg] at q45
            have e1 : v 48 = (.pointer (some ⟨w.heap.size, 2, none⟩)) := HD.out ⟨15, .data⟩ (by simp) rfl
            rw [e1] at q48
            have p2 := (HF.out.cell (p := ⟨w.heap.size, 2, none⟩) hpb'.out.2).trans hpb'.out.1
            have hP := (rfl : (Value.slice (some ⟨b, off, none⟩) n c) = .slice (some ⟨b, off, none⟩) n c)
            clear hin hout ho hi
            go_simp
            exact hK _ _ (Below.refl _ _) hP
          · obtain rfl := Option.some.inj ho
            have q45 := hin 45 (by decide)
            have sl6 : T'[6]? = some (.int .i64 (k : Int)) := (hout 6 (by decide)).trans rfl
            have eg : v 45 = (.bool true) := HD.out ⟨12, .guard⟩ (by simp) rfl
            rw [eg] at q45
            clear hin hout ho hi
            go_simp
            exact hK _ _ (Below.refl _ _) rfl
          · obtain rfl := Option.some.inj ho
            have q45 := hin 45 (by decide)
            have q50 := hin 50 (by decide)
            have eg : v 45 = (.bool true) := HD.out ⟨12, .guard⟩ (by simp) rfl
            rw [eg] at q45
            have e0 : v 50 = (.int .i64 (k : Int)) := HD.out ⟨17, .data⟩ (by simp) rfl
            rw [e0] at q50
            clear hin hout ho hi
            go_simp
            exact hK _ _ (Below.refl _ _) rfl
          · obtain rfl := Option.some.inj ho
            have q45 := hin 45 (by decide)
            have q49 := hin 49 (by decide)
            have q51 := hin 51 (by decide)
            have eg : v 45 = (.bool true) := HD.out ⟨12, .guard⟩ (by simp) rfl
            rw [eg] at q45
            have e0 : v 49 = (.slice (some ⟨b, off, none⟩) n c) := HD.out ⟨16, .data⟩ (by simp) rfl
            rw [e0] at q49
            have e1 : v 51 = (.int .i64 (j : Int)) := HD.out ⟨18, .data⟩ (by simp) rfl
            rw [e1] at q51
            clear hin hout ho hi
            go_simp
            exact hK _ _ (Below.refl _ _) rfl
          · obtain rfl := Option.some.inj ho
            have q45 := hin 45 (by decide)
            have q52 := hin 52 (by decide)
            have eg : v 45 = (.bool true) := HD.out ⟨12, .guard⟩ (by simp) rfl
            rw [eg] at q45
            have e0 : v 52 = (.pointer (some ⟨b, off + j * 3, none⟩)) := HD.out ⟨19, .data⟩ (by simp) rfl
            rw [e0] at q52
            clear hin hout ho hi
            go_simp
            exact hK _ _ (Below.refl _ _) rfl
          · obtain rfl := Option.some.inj ho
            have q45 := hin 45 (by decide)
            have q53 := hin 53 (by decide)
            have eg : v 45 = (.bool true) := HD.out ⟨12, .guard⟩ (by simp) rfl
            rw [eg] at q45
            have e1 : v 53 = (.pointer (some ⟨b, off + j * 3, none⟩)) := HD.out ⟨20, .data⟩ (by simp) rfl
            rw [e1] at q53
            have r0 := (HF.out.cell (p := ⟨b, off + j * 3, none⟩) HBY.out).trans HPK.out
            have hP := (rfl : (Value.int .i64 pk) = .int .i64 pk)
            clear hin hout ho hi
            go_simp
            exact hK _ _ (Below.refl _ _) hP
          · obtain rfl := Option.some.inj ho
            have q45 := hin 45 (by decide)
            have q47 := hin 47 (by decide)
            have q54 := hin 54 (by decide)
            have eg : v 45 = (.bool true) := HD.out ⟨12, .guard⟩ (by simp) rfl
            rw [eg] at q45
            have e0 : v 47 = (.int .i64 tk) := HD.out ⟨14, .data⟩ (by simp) rfl
            rw [e0] at q47
            have e1 : v 54 = (.int .i64 pk) := HD.out ⟨21, .data⟩ (by simp) rfl
            rw [e1] at q54
            clear hin hout ho hi
            go_simp
            exact hK _ _ (Below.refl _ _) rfl
          · obtain rfl := Option.some.inj ho
            have q42 := hin 42 (by decide)
            have q45 := hin 45 (by decide)
            have q55 := hin 55 (by decide)
            have eg : v 42 = (.bool false) := HD.out ⟨9, .guard⟩ (by simp) rfl
            rw [eg] at q42
            have e0 : v 45 = (.bool true) := HD.out ⟨12, .data⟩ (by simp) rfl
            rw [e0] at q45
            have e1 : v 55 = (.bool true) := HD.out ⟨22, .data⟩ (by simp) rfl
            rw [e1] at q55
            clear hin hout ho hi
            go_simp
            exact hK _ _ (Below.refl _ _) rfl
          · obtain rfl := Option.some.inj ho
            have q42 := hin 42 (by decide)
            have q56 := hin 56 (by decide)
            have e0 : v 42 = (.bool false) := HD.out ⟨9, .data⟩ (by simp) rfl
            rw [e0] at q42
            have e1 : v 56 = (.bool true) := HD.out ⟨23, .data⟩ (by simp) rfl
            rw [e1] at q56
            clear hin hout ho hi
            go_simp
            exact hK _ _ (Below.refl _ _) rfl
          · obtain rfl := Option.some.inj ho
            have q57 := hin 57 (by decide)
            have e0 : v 57 = (.bool true) := HD.out ⟨24, .data⟩ (by simp) rfl
            rw [e0] at q57
            clear hin hout ho hi
            go_simp
            exact hK _ _ (Below.refl _ _) rfl
          · obtain rfl := Option.some.inj ho
            have q58 := hin 58 (by decide)
            have eg : v 58 = (.bool true) := HD.out ⟨25, .guard⟩ (by simp) rfl
            rw [eg] at q58
            clear hin hout ho hi
            go_simp
            exact hK _ _ (Below.refl _ _) rfl
          · obtain rfl := Option.some.inj ho
            have q58 := hin 58 (by decide)
            have eg : v 58 = (.bool true) := HD.out ⟨25, .guard⟩ (by simp) rfl
            rw [eg] at q58
            clear hin hout ho hi
            go_simp
            exact hK _ _ (Below.refl _ _) rfl
          · obtain rfl := Option.some.inj ho
            have q58 := hin 58 (by decide)
            have eg : v 58 = (.bool true) := HD.out ⟨25, .guard⟩ (by simp) rfl
            rw [eg] at q58
            clear hin hout ho hi
            go_simp
            exact hK _ _ (Below.refl _ _) rfl
          · obtain rfl := Option.some.inj ho
            have q58 := hin 58 (by decide)
            have eg : v 58 = (.bool true) := HD.out ⟨25, .guard⟩ (by simp) rfl
            rw [eg] at q58
            clear hin hout ho hi
            go_simp
            exact hK _ _ (Below.refl _ _) rfl
          · obtain rfl := Option.some.inj ho
            have q58 := hin 58 (by decide)
            have q62 := hin 62 (by decide)
            have e0 : v 58 = (.bool true) := HD.out ⟨25, .data⟩ (by simp) rfl
            rw [e0] at q58
            have e1 : v 62 = undef := HD.out ⟨29, .data⟩ (by simp) rfl
            rw [e1] at q62
            clear hin hout ho hi
            go_simp
            exact hK _ _ (Below.refl _ _) rfl
          · obtain rfl := Option.some.inj ho
            have q63 := hin 63 (by decide)
            have e0 : v 63 = (.bool true) := HD.out ⟨30, .data⟩ (by simp) rfl
            rw [e0] at q63
            clear hin hout ho hi
            go_simp
            exact hK _ _ (Below.refl _ _) rfl
          · obtain rfl := Option.some.inj ho
            have q64 := hin 64 (by decide)
            have eg : v 64 = (.bool true) := HD.out ⟨31, .guard⟩ (by simp) rfl
            rw [eg] at q64
            clear hin hout ho hi
            go_simp
            exact hK _ _ (Below.refl _ _) rfl
          · obtain rfl := Option.some.inj ho
            have q64 := hin 64 (by decide)
            have eg : v 64 = (.bool true) := HD.out ⟨31, .guard⟩ (by simp) rfl
            rw [eg] at q64
            clear hin hout ho hi
            go_simp
            exact hK _ _ (Below.refl _ _) rfl
          · obtain rfl := Option.some.inj ho
            have q64 := hin 64 (by decide)
            have eg : v 64 = (.bool true) := HD.out ⟨31, .guard⟩ (by simp) rfl
            rw [eg] at q64
            clear hin hout ho hi
            go_simp
            exact hK _ _ (Below.refl _ _) rfl
          · obtain rfl := Option.some.inj ho
            have q64 := hin 64 (by decide)
            have eg : v 64 = (.bool true) := HD.out ⟨31, .guard⟩ (by simp) rfl
            rw [eg] at q64
            clear hin hout ho hi
            go_simp
            exact hK _ _ (Below.refl _ _) rfl
          · obtain rfl := Option.some.inj ho
            have q64 := hin 64 (by decide)
            have q68 := hin 68 (by decide)
            have e0 : v 64 = (.bool true) := HD.out ⟨31, .data⟩ (by simp) rfl
            rw [e0] at q64
            have e1 : v 68 = undef := HD.out ⟨35, .data⟩ (by simp) rfl
            rw [e1] at q68
            clear hin hout ho hi
            go_simp
            exact hK _ _ (Below.refl _ _) rfl
        · intro v wx hF hall
          have HX4 := Lib.hid hF
          have e69 : v 69 = .bool true := hall 36 (by omega)
          clear hall hF
          simp only [over, List.setIfInBounds_toArray, List.set_cons_zero, List.set_cons_succ]
          rw [e69]
          generalize v 33 = v33
          generalize v 34 = v34
          generalize v 35 = v35
          generalize v 36 = v36
          generalize v 37 = v37
          generalize v 38 = v38
          generalize v 39 = v39
          generalize v 40 = v40
          generalize v 41 = v41
          generalize v 42 = v42
          generalize v 43 = v43
          generalize v 44 = v44
          generalize v 45 = v45
          generalize v 46 = v46
          generalize v 47 = v47
          generalize v 48 = v48
          generalize v 49 = v49
          generalize v 50 = v50
          generalize v 51 = v51
          generalize v 52 = v52
          generalize v 53 = v53
          generalize v 54 = v54
          generalize v 55 = v55
          generalize v 56 = v56
          generalize v 57 = v57
          generalize v 58 = v58
          generalize v 59 = v59
          generalize v 60 = v60
          generalize v 61 = v61
          generalize v 62 = v62
          generalize v 63 = v63
          generalize v 64 = v64
          generalize v 65 = v65
          generalize v 66 = v66
          generalize v 67 = v67
          generalize v 68 = v68
          clear e69
          go_wp2_with fail
          go_ret
          exact ⟨by rw [HE.out]; rfl, hbel'.out.trans (HX4.out.mono hbel'.out.size)⟩
        | false =>
        have HG4 : Hid ((decide (0 < k) && decide (tk ≤ pk)) = false) := Lib.hid (by rw [g4, Bool.and_false])
        cases hv1 : vld ck lk with
        | false =>
          have HE : Hid (bsB ns n tw ct cl = false) := bsB_bad hlt (by rw [HC.out, hv1]; simp)
          have HVv : Hid (∀ wx, Calls Tryz.prog 95 #[.agg #[.int .i64 ck, .int .i64 lk]] wx (RetV (.val (.bool false)) wx)) := fun wx => (rvalid_any ck lk wx).mono fun e w' h => ⟨_, h.1, by rw [hv1]; rfl, h.2⟩
          clear hv1
          refine wp_region_flow 37 [33, 34, 35, 36, 37, 38, 39, 40, 41, 42, 43, 44, 45, 46, 47, 48, 49, 50, 51, 52, 53, 54, 55, 56, 57, 58, 59, 60, 61, 62, 63, 64, 65, 66, 67, 68, 69] (fun i => 33 + i) (Below Y.heap.size Y) (Spl [.val (.pointer (some ⟨gb, 0, none⟩)), .val (.int .i64 tk), .val (.bool false), .val (.bool false), .val (.pointer (some ⟨gb, 0, none⟩)), .val (.int .i64 tk), .val (.int .i64 (ns : Int)), .val (.bool false), .val (.bool false), .val (.bool false), .val (.int .i64 (k : Int)), .val (.bool true), .val (.bool true), .val (.pointer (some ⟨gb, 0, none⟩)), .val (.int .i64 tk), .val (.pointer (some ⟨w.heap.size, 2, none⟩)), .val (.slice (some ⟨b, off, none⟩) n c), .val (.int .i64 (k : Int)), .val (.int .i64 (j : Int)), .val (.pointer (some ⟨b, off + j * 3, none⟩)), .val (.pointer (some ⟨b, off + j * 3, none⟩)), .val (.int .i64 pk), .val (.bool false), .val (.bool false), .val (.bool false), .val (.bool false), .val (.pointer (some ⟨gb, 1, none⟩)), .val (.agg #[.int .i64 ck, .int .i64 lk]), .val (.bool false), .val (.bool true), .val (.bool true), .val (.bool true), .val undef, .val undef, .val undef, .val undef, .val (.bool true)]) (by kernel_rfl) (by kernel_rfl) (by kernel_rfl) (by kernel_rfl) (fun i j _ _ h => Nat.add_left_cancel (show 33 + i = 33 + j from h)) (by decide) (fun wx wy (h : Below Y.heap.size Y wx) hb => h.trans (hb.mono h.size)) Spl.keep ?_ ?_ ?_
          · exact Below.drew (Below.refl _ _)
          · intro i v wx o T' K ho hF hdep hin hout hK
            have hi : i < 37 := (Array.getElem?_eq_some_iff.1 ho).1
            have HF := Lib.hid hF
            have HD := Lib.hid hdep
            clear hF hdep
            rcases (by omega : i = 0 ∨ i = 1 ∨ i = 2 ∨ i = 3 ∨ i = 4 ∨ i = 5 ∨ i = 6 ∨ i = 7 ∨ i = 8 ∨ i = 9 ∨ i = 10 ∨ i = 11 ∨ i = 12 ∨ i = 13 ∨ i = 14 ∨ i = 15 ∨ i = 16 ∨ i = 17 ∨ i = 18 ∨ i = 19 ∨ i = 20 ∨ i = 21 ∨ i = 22 ∨ i = 23 ∨ i = 24 ∨ i = 25 ∨ i = 26 ∨ i = 27 ∨ i = 28 ∨ i = 29 ∨ i = 30 ∨ i = 31 ∨ i = 32 ∨ i = 33 ∨ i = 34 ∨ i = 35 ∨ i = 36) with rfl | rfl | rfl | rfl | rfl | rfl | rfl | rfl | rfl | rfl | rfl | rfl | rfl | rfl | rfl | rfl | rfl | rfl | rfl | rfl | rfl | rfl | rfl | rfl | rfl | rfl | rfl | rfl | rfl | rfl | rfl | rfl | rfl | rfl | rfl | rfl | rfl
            · obtain rfl := Option.some.inj ho
              have sl7 : T'[7]? = some (.pointer (some ⟨gb, 0, none⟩)) := (hout 7 (by decide)).trans rfl
              clear hin hout ho hi
              go_simp
              exact hK _ _ (Below.refl _ _) rfl
            · obtain rfl := Option.some.inj ho
              have q33 := hin 33 (by decide)
              have e1 : v 33 = (.pointer (some ⟨gb, 0, none⟩)) := HD.out ⟨0, .data⟩ (by simp) rfl
              rw [e1] at q33
              have j0 := (HF.out.cell (p := ⟨gb, 0, none⟩) hbx.out.2.2.2).trans hbx.out.1
              have hP := (rfl : (Value.int .i64 tk) = .int .i64 tk)
              clear hin hout ho hi
              go_simp
              exact hK _ _ (Below.refl _ _) hP
            · obtain rfl := Option.some.inj ho
              have q34 := hin 34 (by decide)
              have e0 : v 34 = (.int .i64 tk) := HD.out ⟨1, .data⟩ (by simp) rfl
              rw [e0] at q34
              clear hin hout ho hi
              go_simp
              exact hK _ _ (Below.refl _ _) rfl
            · obtain rfl := Option.some.inj ho
              have q35 := hin 35 (by decide)
              have e0 : v 35 = (.bool false) := HD.out ⟨2, .data⟩ (by simp) rfl
              rw [e0] at q35
              clear hin hout ho hi
              go_simp
              exact hK _ _ (Below.refl _ _) rfl
            · obtain rfl := Option.some.inj ho
              have q36 := hin 36 (by decide)
              have sl7 : T'[7]? = some (.pointer (some ⟨gb, 0, none⟩)) := (hout 7 (by decide)).trans rfl
              have eg : v 36 = (.bool false) := HD.out ⟨3, .guard⟩ (by simp) rfl
              rw [eg] at q36
              clear hin hout ho hi
              go_simp
              exact hK _ _ (Below.refl _ _) rfl
            · obtain rfl := Option.some.inj ho
              have q36 := hin 36 (by decide)
              have q37 := hin 37 (by decide)
              have eg : v 36 = (.bool false) := HD.out ⟨3, .guard⟩ (by simp) rfl
              rw [eg] at q36
              have e1 : v 37 = (.pointer (some ⟨gb, 0, none⟩)) := HD.out ⟨4, .data⟩ (by simp) rfl
              rw [e1] at q37
              have j0 := (HF.out.cell (p := ⟨gb, 0, none⟩) hbx.out.2.2.2).trans hbx.out.1
              have hP := (rfl : (Value.int .i64 tk) = .int .i64 tk)
              clear hin hout ho hi
              go_simp
              exact hK _ _ (Below.refl _ _) hP
            · obtain rfl := Option.some.inj ho
              have q36 := hin 36 (by decide)
              have sl1 : T'[1]? = some (.int .i64 (ns : Int)) := (hout 1 (by decide)).trans rfl
              have eg : v 36 = (.bool false) := HD.out ⟨3, .guard⟩ (by simp) rfl
              rw [eg] at q36
              clear hin hout ho hi
              go_simp
              exact hK _ _ (Below.refl _ _) rfl
            · obtain rfl := Option.some.inj ho
              have q36 := hin 36 (by decide)
              have q38 := hin 38 (by decide)
              have q39 := hin 39 (by decide)
              have eg : v 36 = (.bool false) := HD.out ⟨3, .guard⟩ (by simp) rfl
              rw [eg] at q36
              have e0 : v 38 = (.int .i64 tk) := HD.out ⟨5, .data⟩ (by simp) rfl
              rw [e0] at q38
              have e1 : v 39 = (.int .i64 (ns : Int)) := HD.out ⟨6, .data⟩ (by simp) rfl
              rw [e1] at q39
              clear hin hout ho hi
              go_simp
              exact hK _ _ (Below.refl _ _) rfl
            · obtain rfl := Option.some.inj ho
              have q36 := hin 36 (by decide)
              have q40 := hin 40 (by decide)
              have e0 : v 36 = (.bool false) := HD.out ⟨3, .data⟩ (by simp) rfl
              rw [e0] at q36
              have e1 : v 40 = (.bool false) := HD.out ⟨7, .data⟩ (by simp) rfl
              rw [e1] at q40
              clear hin hout ho hi
              go_simp
              exact hK _ _ (Below.refl _ _) rfl
            · obtain rfl := Option.some.inj ho
              have q41 := hin 41 (by decide)
              have e0 : v 41 = (.bool false) := HD.out ⟨8, .data⟩ (by simp) rfl
              rw [e0] at q41
              clear hin hout ho hi
              go_simp
              exact hK _ _ (Below.refl _ _) rfl
            · obtain rfl := Option.some.inj ho
              have q42 := hin 42 (by decide)
              have sl6 : T'[6]? = some (.int .i64 (k : Int)) := (hout 6 (by decide)).trans rfl
              have eg : v 42 = (.bool false) := HD.out ⟨9, .guard⟩ (by simp) rfl
              rw [eg] at q42
              clear hin hout ho hi
              go_simp
              exact hK _ _ (Below.refl _ _) rfl
            · obtain rfl := Option.some.inj ho
              have q42 := hin 42 (by decide)
              have q43 := hin 43 (by decide)
              have eg : v 42 = (.bool false) := HD.out ⟨9, .guard⟩ (by simp) rfl
              rw [eg] at q42
              have e0 : v 43 = (.int .i64 (k : Int)) := HD.out ⟨10, .data⟩ (by simp) rfl
              rw [e0] at q43
              clear hin hout ho hi
              go_simp
              exact hK _ _ (Below.refl _ _) rfl
            · obtain rfl := Option.some.inj ho
              have q42 := hin 42 (by decide)
              have q44 := hin 44 (by decide)
              have eg : v 42 = (.bool false) := HD.out ⟨9, .guard⟩ (by simp) rfl
              rw [eg] at q42
              have e0 : v 44 = (.bool true) := HD.out ⟨11, .data⟩ (by simp) rfl
              rw [e0] at q44
              clear hin hout ho hi
              go_simp
              exact hK _ _ (Below.refl _ _) rfl
            · obtain rfl := Option.some.inj ho
              have q45 := hin 45 (by decide)
              have sl7 : T'[7]? = some (.pointer (some ⟨gb, 0, none⟩)) := (hout 7 (by decide)).trans rfl
              have eg : v 45 = (.bool true) := HD.out ⟨12, .guard⟩ (by simp) rfl
              rw [eg] at q45
              clear hin hout ho hi
              go_simp
              exact hK _ _ (Below.refl _ _) rfl
            · obtain rfl := Option.some.inj ho
              have q45 := hin 45 (by decide)
              have q46 := hin 46 (by decide)
              have eg : v 45 = (.bool true) := HD.out ⟨12, .guard⟩ (by simp) rfl
              rw [eg] at q45
              have e1 : v 46 = (.pointer (some ⟨gb, 0, none⟩)) := HD.out ⟨13, .data⟩ (by simp) rfl
              rw [e1] at q46
              have j0 := (HF.out.cell (p := ⟨gb, 0, none⟩) hbx.out.2.2.2).trans hbx.out.1
              have hP := (rfl : (Value.int .i64 tk) = .int .i64 tk)
              clear hin hout ho hi
              go_simp
              exact hK _ _ (Below.refl _ _) hP
            · obtain rfl := Option.some.inj ho
              have q45 := hin 45 (by decide)
              have sl2 : T'[2]? = some (.pointer (some ⟨w.heap.size, 0, none⟩)) := (hout 2 (by decide)).trans rfl
              have eg : v 45 = (.bool true) := HD.out ⟨12, .guard⟩ (by simp) rfl
              rw [eg] at q45
              clear hin hout ho hi
              go_simp
              exact hK _ _ (Below.refl _ _) rfl
            · obtain rfl := Option.some.inj ho
              have q45 := hin 45 (by decide)
              have q48 := hin 48 (by decide)
              have eg : v 45 = (.bool true) := HD.out ⟨12, .guard⟩ (by simp) rfl
              rw [eg] at q45
              have e1 : v 48 = (.pointer (some ⟨w.heap.size, 2, none⟩)) := HD.out ⟨15, .data⟩ (by simp) rfl
              rw [e1] at q48
              have p2 := (HF.out.cell (p := ⟨w.heap.size, 2, none⟩) hpb'.out.2).trans hpb'.out.1
              have hP := (rfl : (Value.slice (some ⟨b, off, none⟩) n c) = .slice (some ⟨b, off, none⟩) n c)
              clear hin hout ho hi
              go_simp
              exact hK _ _ (Below.refl _ _) hP
            · obtain rfl := Option.some.inj ho
              have q45 := hin 45 (by decide)
              have sl6 : T'[6]? = some (.int .i64 (k : Int)) := (hout 6 (by decide)).trans rfl
              have eg : v 45 = (.bool true) := HD.out ⟨12, .guard⟩ (by simp) rfl
              rw [eg] at q45
              clear hin hout ho hi
              go_simp
              exact hK _ _ (Below.refl _ _) rfl
            · obtain rfl := Option.some.inj ho
              have q45 := hin 45 (by decide)
              have q50 := hin 50 (by decide)
              have eg : v 45 = (.bool true) := HD.out ⟨12, .guard⟩ (by simp) rfl
              rw [eg] at q45
              have e0 : v 50 = (.int .i64 (k : Int)) := HD.out ⟨17, .data⟩ (by simp) rfl
              rw [e0] at q50
              clear hin hout ho hi
              go_simp
              exact hK _ _ (Below.refl _ _) rfl
            · obtain rfl := Option.some.inj ho
              have q45 := hin 45 (by decide)
              have q49 := hin 49 (by decide)
              have q51 := hin 51 (by decide)
              have eg : v 45 = (.bool true) := HD.out ⟨12, .guard⟩ (by simp) rfl
              rw [eg] at q45
              have e0 : v 49 = (.slice (some ⟨b, off, none⟩) n c) := HD.out ⟨16, .data⟩ (by simp) rfl
              rw [e0] at q49
              have e1 : v 51 = (.int .i64 (j : Int)) := HD.out ⟨18, .data⟩ (by simp) rfl
              rw [e1] at q51
              clear hin hout ho hi
              go_simp
              exact hK _ _ (Below.refl _ _) rfl
            · obtain rfl := Option.some.inj ho
              have q45 := hin 45 (by decide)
              have q52 := hin 52 (by decide)
              have eg : v 45 = (.bool true) := HD.out ⟨12, .guard⟩ (by simp) rfl
              rw [eg] at q45
              have e0 : v 52 = (.pointer (some ⟨b, off + j * 3, none⟩)) := HD.out ⟨19, .data⟩ (by simp) rfl
              rw [e0] at q52
              clear hin hout ho hi
              go_simp
              exact hK _ _ (Below.refl _ _) rfl
            · obtain rfl := Option.some.inj ho
              have q45 := hin 45 (by decide)
              have q53 := hin 53 (by decide)
              have eg : v 45 = (.bool true) := HD.out ⟨12, .guard⟩ (by simp) rfl
              rw [eg] at q45
              have e1 : v 53 = (.pointer (some ⟨b, off + j * 3, none⟩)) := HD.out ⟨20, .data⟩ (by simp) rfl
              rw [e1] at q53
              have r0 := (HF.out.cell (p := ⟨b, off + j * 3, none⟩) HBY.out).trans HPK.out
              have hP := (rfl : (Value.int .i64 pk) = .int .i64 pk)
              clear hin hout ho hi
              go_simp
              exact hK _ _ (Below.refl _ _) hP
            · obtain rfl := Option.some.inj ho
              have q45 := hin 45 (by decide)
              have q47 := hin 47 (by decide)
              have q54 := hin 54 (by decide)
              have eg : v 45 = (.bool true) := HD.out ⟨12, .guard⟩ (by simp) rfl
              rw [eg] at q45
              have e0 : v 47 = (.int .i64 tk) := HD.out ⟨14, .data⟩ (by simp) rfl
              rw [e0] at q47
              have e1 : v 54 = (.int .i64 pk) := HD.out ⟨21, .data⟩ (by simp) rfl
              rw [e1] at q54
              clear hin hout ho hi
              go_simp
              exact hK _ _ (Below.refl _ _) rfl
            · obtain rfl := Option.some.inj ho
              have q42 := hin 42 (by decide)
              have q45 := hin 45 (by decide)
              have q55 := hin 55 (by decide)
              have eg : v 42 = (.bool false) := HD.out ⟨9, .guard⟩ (by simp) rfl
              rw [eg] at q42
              have e0 : v 45 = (.bool true) := HD.out ⟨12, .data⟩ (by simp) rfl
              rw [e0] at q45
              have e1 : v 55 = (.bool false) := HD.out ⟨22, .data⟩ (by simp) rfl
              rw [e1] at q55
              clear hin hout ho hi
              go_simp
              exact hK _ _ (Below.refl _ _) rfl
            · obtain rfl := Option.some.inj ho
              have q42 := hin 42 (by decide)
              have q56 := hin 56 (by decide)
              have e0 : v 42 = (.bool false) := HD.out ⟨9, .data⟩ (by simp) rfl
              rw [e0] at q42
              have e1 : v 56 = (.bool false) := HD.out ⟨23, .data⟩ (by simp) rfl
              rw [e1] at q56
              clear hin hout ho hi
              go_simp
              exact hK _ _ (Below.refl _ _) rfl
            · obtain rfl := Option.some.inj ho
              have q57 := hin 57 (by decide)
              have e0 : v 57 = (.bool false) := HD.out ⟨24, .data⟩ (by simp) rfl
              rw [e0] at q57
              clear hin hout ho hi
              go_simp
              exact hK _ _ (Below.refl _ _) rfl
            · obtain rfl := Option.some.inj ho
              have q58 := hin 58 (by decide)
              have sl7 : T'[7]? = some (.pointer (some ⟨gb, 0, none⟩)) := (hout 7 (by decide)).trans rfl
              have eg : v 58 = (.bool false) := HD.out ⟨25, .guard⟩ (by simp) rfl
              rw [eg] at q58
              clear hin hout ho hi
              go_simp
              exact hK _ _ (Below.refl _ _) rfl
            · obtain rfl := Option.some.inj ho
              have q58 := hin 58 (by decide)
              have q59 := hin 59 (by decide)
              have eg : v 58 = (.bool false) := HD.out ⟨25, .guard⟩ (by simp) rfl
              rw [eg] at q58
              have e1 : v 59 = (.pointer (some ⟨gb, 1, none⟩)) := HD.out ⟨26, .data⟩ (by simp) rfl
              rw [e1] at q59
              obtain ⟨j1, j2⟩ := And.intro ((HF.out.cell (p := ⟨gb, 1, none⟩) hbx.out.2.2.2).trans hbx.out.2.1) ((HF.out.cell (p := ⟨gb, 2, none⟩) hbx.out.2.2.2).trans hbx.out.2.2.1)
              have hP := (rfl : (Value.agg #[.int .i64 ck, .int .i64 lk]) = .agg #[.int .i64 ck, .int .i64 lk])
              clear hin hout ho hi
              go_simp
              exact hK _ _ (Below.refl _ _) hP
            · obtain rfl := Option.some.inj ho
              have q58 := hin 58 (by decide)
              have q60 := hin 60 (by decide)
              have eg : v 58 = (.bool false) := HD.out ⟨25, .guard⟩ (by simp) rfl
              rw [eg] at q58
              have e0 : v 60 = (.agg #[.int .i64 ck, .int .i64 lk]) := HD.out ⟨27, .data⟩ (by simp) rfl
              rw [e0] at q60
              clear hin hout ho hi
              go_simp
              (with_reducible refine (HVv.out _).mono ?_)
              rintro e w2 ⟨u, rfl, hu, hB⟩
              exact hK _ _ hB hu
            · obtain rfl := Option.some.inj ho
              have q58 := hin 58 (by decide)
              have q61 := hin 61 (by decide)
              have eg : v 58 = (.bool false) := HD.out ⟨25, .guard⟩ (by simp) rfl
              rw [eg] at q58
              have e0 : v 61 = (.bool false) := HD.out ⟨28, .data⟩ (by simp) rfl
              rw [e0] at q61
              clear hin hout ho hi
              go_simp
              exact hK _ _ (Below.refl _ _) rfl
            · obtain rfl := Option.some.inj ho
              have q58 := hin 58 (by decide)
              have q62 := hin 62 (by decide)
              have e0 : v 58 = (.bool false) := HD.out ⟨25, .data⟩ (by simp) rfl
              rw [e0] at q58
              have e1 : v 62 = (.bool true) := HD.out ⟨29, .data⟩ (by simp) rfl
              rw [e1] at q62
              clear hin hout ho hi
              go_simp
              exact hK _ _ (Below.refl _ _) rfl
            · obtain rfl := Option.some.inj ho
              have q63 := hin 63 (by decide)
              have e0 : v 63 = (.bool true) := HD.out ⟨30, .data⟩ (by simp) rfl
              rw [e0] at q63
              clear hin hout ho hi
              go_simp
              exact hK _ _ (Below.refl _ _) rfl
            · obtain rfl := Option.some.inj ho
              have q64 := hin 64 (by decide)
              have eg : v 64 = (.bool true) := HD.out ⟨31, .guard⟩ (by simp) rfl
              rw [eg] at q64
              clear hin hout ho hi
              go_simp
              exact hK _ _ (Below.refl _ _) rfl
            · obtain rfl := Option.some.inj ho
              have q64 := hin 64 (by decide)
              have eg : v 64 = (.bool true) := HD.out ⟨31, .guard⟩ (by simp) rfl
              rw [eg] at q64
              clear hin hout ho hi
              go_simp
              exact hK _ _ (Below.refl _ _) rfl
            · obtain rfl := Option.some.inj ho
              have q64 := hin 64 (by decide)
              have eg : v 64 = (.bool true) := HD.out ⟨31, .guard⟩ (by simp) rfl
              rw [eg] at q64
              clear hin hout ho hi
              go_simp
              exact hK _ _ (Below.refl _ _) rfl
            · obtain rfl := Option.some.inj ho
              have q64 := hin 64 (by decide)
              have eg : v 64 = (.bool true) := HD.out ⟨31, .guard⟩ (by simp) rfl
              rw [eg] at q64
              clear hin hout ho hi
              go_simp
              exact hK _ _ (Below.refl _ _) rfl
            · obtain rfl := Option.some.inj ho
              have q64 := hin 64 (by decide)
              have q68 := hin 68 (by decide)
              have e0 : v 64 = (.bool true) := HD.out ⟨31, .data⟩ (by simp) rfl
              rw [e0] at q64
              have e1 : v 68 = undef := HD.out ⟨35, .data⟩ (by simp) rfl
              rw [e1] at q68
              clear hin hout ho hi
              go_simp
              exact hK _ _ (Below.refl _ _) rfl
          · intro v wx hF hall
            have HX4 := Lib.hid hF
            have e69 : v 69 = .bool true := hall 36 (by omega)
            clear hall hF
            simp only [over, List.setIfInBounds_toArray, List.set_cons_zero, List.set_cons_succ]
            rw [e69]
            generalize v 33 = v33
            generalize v 34 = v34
            generalize v 35 = v35
            generalize v 36 = v36
            generalize v 37 = v37
            generalize v 38 = v38
            generalize v 39 = v39
            generalize v 40 = v40
            generalize v 41 = v41
            generalize v 42 = v42
            generalize v 43 = v43
            generalize v 44 = v44
            generalize v 45 = v45
            generalize v 46 = v46
            generalize v 47 = v47
            generalize v 48 = v48
            generalize v 49 = v49
            generalize v 50 = v50
            generalize v 51 = v51
            generalize v 52 = v52
            generalize v 53 = v53
            generalize v 54 = v54
            generalize v 55 = v55
            generalize v 56 = v56
            generalize v 57 = v57
            generalize v 58 = v58
            generalize v 59 = v59
            generalize v 60 = v60
            generalize v 61 = v61
            generalize v 62 = v62
            generalize v 63 = v63
            generalize v 64 = v64
            generalize v 65 = v65
            generalize v 66 = v66
            generalize v 67 = v67
            generalize v 68 = v68
            clear e69
            go_wp2_with fail
            go_ret
            exact ⟨by rw [HE.out]; rfl, hbel'.out.trans (HX4.out.mono hbel'.out.size)⟩
        | true =>
          have HVv : Hid (∀ wx, Calls Tryz.prog 95 #[.agg #[.int .i64 ck, .int .i64 lk]] wx (RetV (.val (.bool true)) wx)) := fun wx => (rvalid_any ck lk wx).mono fun e w' h => ⟨_, h.1, by rw [hv1]; rfl, h.2⟩
          have HV1 := Lib.hid hv1
          clear hv1
          refine wp_region_flow 37 [33, 34, 35, 36, 37, 38, 39, 40, 41, 42, 43, 44, 45, 46, 47, 48, 49, 50, 51, 52, 53, 54, 55, 56, 57, 58, 59, 60, 61, 62, 63, 64, 65, 66, 67, 68, 69] (fun i => 33 + i) (Below Y.heap.size Y) (Spl [.val (.pointer (some ⟨gb, 0, none⟩)), .val (.int .i64 tk), .val (.bool false), .val (.bool false), .val (.pointer (some ⟨gb, 0, none⟩)), .val (.int .i64 tk), .val (.int .i64 (ns : Int)), .val (.bool false), .val (.bool false), .val (.bool false), .val (.int .i64 (k : Int)), .val (.bool true), .val (.bool true), .val (.pointer (some ⟨gb, 0, none⟩)), .val (.int .i64 tk), .val (.pointer (some ⟨w.heap.size, 2, none⟩)), .val (.slice (some ⟨b, off, none⟩) n c), .val (.int .i64 (k : Int)), .val (.int .i64 (j : Int)), .val (.pointer (some ⟨b, off + j * 3, none⟩)), .val (.pointer (some ⟨b, off + j * 3, none⟩)), .val (.int .i64 pk), .val (.bool false), .val (.bool false), .val (.bool false), .val (.bool false), .val (.pointer (some ⟨gb, 1, none⟩)), .val (.agg #[.int .i64 ck, .int .i64 lk]), .val (.bool true), .val (.bool false), .val (.bool false), .val (.bool false), .val (.pointer (some ⟨gb, 1, none⟩)), .val (.pointer (some ⟨gb, 1, none⟩)), .val (.int .i64 ck), .val (.bool (decide (ck ≤ 0))), .val (.bool (decide (ck ≤ 0)))]) (by kernel_rfl) (by kernel_rfl) (by kernel_rfl) (by kernel_rfl) (fun i j _ _ h => Nat.add_left_cancel (show 33 + i = 33 + j from h)) (by decide) (fun wx wy (h : Below Y.heap.size Y wx) hb => h.trans (hb.mono h.size)) Spl.keep ?_ ?_ ?_
          · exact Below.drew (Below.refl _ _)
          · intro i v wx o T' K ho hF hdep hin hout hK
            have hi : i < 37 := (Array.getElem?_eq_some_iff.1 ho).1
            have HF := Lib.hid hF
            have HD := Lib.hid hdep
            clear hF hdep
            rcases (by omega : i = 0 ∨ i = 1 ∨ i = 2 ∨ i = 3 ∨ i = 4 ∨ i = 5 ∨ i = 6 ∨ i = 7 ∨ i = 8 ∨ i = 9 ∨ i = 10 ∨ i = 11 ∨ i = 12 ∨ i = 13 ∨ i = 14 ∨ i = 15 ∨ i = 16 ∨ i = 17 ∨ i = 18 ∨ i = 19 ∨ i = 20 ∨ i = 21 ∨ i = 22 ∨ i = 23 ∨ i = 24 ∨ i = 25 ∨ i = 26 ∨ i = 27 ∨ i = 28 ∨ i = 29 ∨ i = 30 ∨ i = 31 ∨ i = 32 ∨ i = 33 ∨ i = 34 ∨ i = 35 ∨ i = 36) with rfl | rfl | rfl | rfl | rfl | rfl | rfl | rfl | rfl | rfl | rfl | rfl | rfl | rfl | rfl | rfl | rfl | rfl | rfl | rfl | rfl | rfl | rfl | rfl | rfl | rfl | rfl | rfl | rfl | rfl | rfl | rfl | rfl | rfl | rfl | rfl | rfl
            · obtain rfl := Option.some.inj ho
              have sl7 : T'[7]? = some (.pointer (some ⟨gb, 0, none⟩)) := (hout 7 (by decide)).trans rfl
              clear hin hout ho hi
              go_simp
              exact hK _ _ (Below.refl _ _) rfl
            · obtain rfl := Option.some.inj ho
              have q33 := hin 33 (by decide)
              have e1 : v 33 = (.pointer (some ⟨gb, 0, none⟩)) := HD.out ⟨0, .data⟩ (by simp) rfl
              rw [e1] at q33
              have j0 := (HF.out.cell (p := ⟨gb, 0, none⟩) hbx.out.2.2.2).trans hbx.out.1
              have hP := (rfl : (Value.int .i64 tk) = .int .i64 tk)
              clear hin hout ho hi
              go_simp
              exact hK _ _ (Below.refl _ _) hP
            · obtain rfl := Option.some.inj ho
              have q34 := hin 34 (by decide)
              have e0 : v 34 = (.int .i64 tk) := HD.out ⟨1, .data⟩ (by simp) rfl
              rw [e0] at q34
              clear hin hout ho hi
              go_simp
              exact hK _ _ (Below.refl _ _) rfl
            · obtain rfl := Option.some.inj ho
              have q35 := hin 35 (by decide)
              have e0 : v 35 = (.bool false) := HD.out ⟨2, .data⟩ (by simp) rfl
              rw [e0] at q35
              clear hin hout ho hi
              go_simp
              exact hK _ _ (Below.refl _ _) rfl
            · obtain rfl := Option.some.inj ho
              have q36 := hin 36 (by decide)
              have sl7 : T'[7]? = some (.pointer (some ⟨gb, 0, none⟩)) := (hout 7 (by decide)).trans rfl
              have eg : v 36 = (.bool false) := HD.out ⟨3, .guard⟩ (by simp) rfl
              rw [eg] at q36
              clear hin hout ho hi
              go_simp
              exact hK _ _ (Below.refl _ _) rfl
            · obtain rfl := Option.some.inj ho
              have q36 := hin 36 (by decide)
              have q37 := hin 37 (by decide)
              have eg : v 36 = (.bool false) := HD.out ⟨3, .guard⟩ (by simp) rfl
              rw [eg] at q36
              have e1 : v 37 = (.pointer (some ⟨gb, 0, none⟩)) := HD.out ⟨4, .data⟩ (by simp) rfl
              rw [e1] at q37
              have j0 := (HF.out.cell (p := ⟨gb, 0, none⟩) hbx.out.2.2.2).trans hbx.out.1
              have hP := (rfl : (Value.int .i64 tk) = .int .i64 tk)
              clear hin hout ho hi
              go_simp
              exact hK _ _ (Below.refl _ _) hP
            · obtain rfl := Option.some.inj ho
              have q36 := hin 36 (by decide)
              have sl1 : T'[1]? = some (.int .i64 (ns : Int)) := (hout 1 (by decide)).trans rfl
              have eg : v 36 = (.bool false) := HD.out ⟨3, .guard⟩ (by simp) rfl
              rw [eg] at q36
              clear hin hout ho hi
              go_simp
              exact hK _ _ (Below.refl _ _) rfl
            · obtain rfl := Option.some.inj ho
              have q36 := hin 36 (by decide)
              have q38 := hin 38 (by decide)
              have q39 := hin 39 (by decide)
              have eg : v 36 = (.bool false) := HD.out ⟨3, .guard⟩ (by simp) rfl
              rw [eg] at q36
              have e0 : v 38 = (.int .i64 tk) := HD.out ⟨5, .data⟩ (by simp) rfl
              rw [e0] at q38
              have e1 : v 39 = (.int .i64 (ns : Int)) := HD.out ⟨6, .data⟩ (by simp) rfl
              rw [e1] at q39
              clear hin hout ho hi
              go_simp
              exact hK _ _ (Below.refl _ _) rfl
            · obtain rfl := Option.some.inj ho
              have q36 := hin 36 (by decide)
              have q40 := hin 40 (by decide)
              have e0 : v 36 = (.bool false) := HD.out ⟨3, .data⟩ (by simp) rfl
              rw [e0] at q36
              have e1 : v 40 = (.bool false) := HD.out ⟨7, .data⟩ (by simp) rfl
              rw [e1] at q40
              clear hin hout ho hi
              go_simp
              exact hK _ _ (Below.refl _ _) rfl
            · obtain rfl := Option.some.inj ho
              have q41 := hin 41 (by decide)
              have e0 : v 41 = (.bool false) := HD.out ⟨8, .data⟩ (by simp) rfl
              rw [e0] at q41
              clear hin hout ho hi
              go_simp
              exact hK _ _ (Below.refl _ _) rfl
            · obtain rfl := Option.some.inj ho
              have q42 := hin 42 (by decide)
              have sl6 : T'[6]? = some (.int .i64 (k : Int)) := (hout 6 (by decide)).trans rfl
              have eg : v 42 = (.bool false) := HD.out ⟨9, .guard⟩ (by simp) rfl
              rw [eg] at q42
              clear hin hout ho hi
              go_simp
              exact hK _ _ (Below.refl _ _) rfl
            · obtain rfl := Option.some.inj ho
              have q42 := hin 42 (by decide)
              have q43 := hin 43 (by decide)
              have eg : v 42 = (.bool false) := HD.out ⟨9, .guard⟩ (by simp) rfl
              rw [eg] at q42
              have e0 : v 43 = (.int .i64 (k : Int)) := HD.out ⟨10, .data⟩ (by simp) rfl
              rw [e0] at q43
              clear hin hout ho hi
              go_simp
              exact hK _ _ (Below.refl _ _) rfl
            · obtain rfl := Option.some.inj ho
              have q42 := hin 42 (by decide)
              have q44 := hin 44 (by decide)
              have eg : v 42 = (.bool false) := HD.out ⟨9, .guard⟩ (by simp) rfl
              rw [eg] at q42
              have e0 : v 44 = (.bool true) := HD.out ⟨11, .data⟩ (by simp) rfl
              rw [e0] at q44
              clear hin hout ho hi
              go_simp
              exact hK _ _ (Below.refl _ _) rfl
            · obtain rfl := Option.some.inj ho
              have q45 := hin 45 (by decide)
              have sl7 : T'[7]? = some (.pointer (some ⟨gb, 0, none⟩)) := (hout 7 (by decide)).trans rfl
              have eg : v 45 = (.bool true) := HD.out ⟨12, .guard⟩ (by simp) rfl
              rw [eg] at q45
              clear hin hout ho hi
              go_simp
              exact hK _ _ (Below.refl _ _) rfl
            · obtain rfl := Option.some.inj ho
              have q45 := hin 45 (by decide)
              have q46 := hin 46 (by decide)
              have eg : v 45 = (.bool true) := HD.out ⟨12, .guard⟩ (by simp) rfl
              rw [eg] at q45
              have e1 : v 46 = (.pointer (some ⟨gb, 0, none⟩)) := HD.out ⟨13, .data⟩ (by simp) rfl
              rw [e1] at q46
              have j0 := (HF.out.cell (p := ⟨gb, 0, none⟩) hbx.out.2.2.2).trans hbx.out.1
              have hP := (rfl : (Value.int .i64 tk) = .int .i64 tk)
              clear hin hout ho hi
              go_simp
              exact hK _ _ (Below.refl _ _) hP
            · obtain rfl := Option.some.inj ho
              have q45 := hin 45 (by decide)
              have sl2 : T'[2]? = some (.pointer (some ⟨w.heap.size, 0, none⟩)) := (hout 2 (by decide)).trans rfl
              have eg : v 45 = (.bool true) := HD.out ⟨12, .guard⟩ (by simp) rfl
              rw [eg] at q45
              clear hin hout ho hi
              go_simp
              exact hK _ _ (Below.refl _ _) rfl
            · obtain rfl := Option.some.inj ho
              have q45 := hin 45 (by decide)
              have q48 := hin 48 (by decide)
              have eg : v 45 = (.bool true) := HD.out ⟨12, .guard⟩ (by simp) rfl
              rw [eg] at q45
              have e1 : v 48 = (.pointer (some ⟨w.heap.size, 2, none⟩)) := HD.out ⟨15, .data⟩ (by simp) rfl
              rw [e1] at q48
              have p2 := (HF.out.cell (p := ⟨w.heap.size, 2, none⟩) hpb'.out.2).trans hpb'.out.1
              have hP := (rfl : (Value.slice (some ⟨b, off, none⟩) n c) = .slice (some ⟨b, off, none⟩) n c)
              clear hin hout ho hi
              go_simp
              exact hK _ _ (Below.refl _ _) hP
            · obtain rfl := Option.some.inj ho
              have q45 := hin 45 (by decide)
              have sl6 : T'[6]? = some (.int .i64 (k : Int)) := (hout 6 (by decide)).trans rfl
              have eg : v 45 = (.bool true) := HD.out ⟨12, .guard⟩ (by simp) rfl
              rw [eg] at q45
              clear hin hout ho hi
              go_simp
              exact hK _ _ (Below.refl _ _) rfl
            · obtain rfl := Option.some.inj ho
              have q45 := hin 45 (by decide)
              have q50 := hin 50 (by decide)
              have eg : v 45 = (.bool true) := HD.out ⟨12, .guard⟩ (by simp) rfl
              rw [eg] at q45
              have e0 : v 50 = (.int .i64 (k : Int)) := HD.out ⟨17, .data⟩ (by simp) rfl
              rw [e0] at q50
              clear hin hout ho hi
              go_simp
              exact hK _ _ (Below.refl _ _) rfl
            · obtain rfl := Option.some.inj ho
              have q45 := hin 45 (by decide)
              have q49 := hin 49 (by decide)
              have q51 := hin 51 (by decide)
              have eg : v 45 = (.bool true) := HD.out ⟨12, .guard⟩ (by simp) rfl
              rw [eg] at q45
              have e0 : v 49 = (.slice (some ⟨b, off, none⟩) n c) := HD.out ⟨16, .data⟩ (by simp) rfl
              rw [e0] at q49
              have e1 : v 51 = (.int .i64 (j : Int)) := HD.out ⟨18, .data⟩ (by simp) rfl
              rw [e1] at q51
              clear hin hout ho hi
              go_simp
              exact hK _ _ (Below.refl _ _) rfl
            · obtain rfl := Option.some.inj ho
              have q45 := hin 45 (by decide)
              have q52 := hin 52 (by decide)
              have eg : v 45 = (.bool true) := HD.out ⟨12, .guard⟩ (by simp) rfl
              rw [eg] at q45
              have e0 : v 52 = (.pointer (some ⟨b, off + j * 3, none⟩)) := HD.out ⟨19, .data⟩ (by simp) rfl
              rw [e0] at q52
              clear hin hout ho hi
              go_simp
              exact hK _ _ (Below.refl _ _) rfl
            · obtain rfl := Option.some.inj ho
              have q45 := hin 45 (by decide)
              have q53 := hin 53 (by decide)
              have eg : v 45 = (.bool true) := HD.out ⟨12, .guard⟩ (by simp) rfl
              rw [eg] at q45
              have e1 : v 53 = (.pointer (some ⟨b, off + j * 3, none⟩)) := HD.out ⟨20, .data⟩ (by simp) rfl
              rw [e1] at q53
              have r0 := (HF.out.cell (p := ⟨b, off + j * 3, none⟩) HBY.out).trans HPK.out
              have hP := (rfl : (Value.int .i64 pk) = .int .i64 pk)
              clear hin hout ho hi
              go_simp
              exact hK _ _ (Below.refl _ _) hP
            · obtain rfl := Option.some.inj ho
              have q45 := hin 45 (by decide)
              have q47 := hin 47 (by decide)
              have q54 := hin 54 (by decide)
              have eg : v 45 = (.bool true) := HD.out ⟨12, .guard⟩ (by simp) rfl
              rw [eg] at q45
              have e0 : v 47 = (.int .i64 tk) := HD.out ⟨14, .data⟩ (by simp) rfl
              rw [e0] at q47
              have e1 : v 54 = (.int .i64 pk) := HD.out ⟨21, .data⟩ (by simp) rfl
              rw [e1] at q54
              clear hin hout ho hi
              go_simp
              exact hK _ _ (Below.refl _ _) rfl
            · obtain rfl := Option.some.inj ho
              have q42 := hin 42 (by decide)
              have q45 := hin 45 (by decide)
              have q55 := hin 55 (by decide)
              have eg : v 42 = (.bool false) := HD.out ⟨9, .guard⟩ (by simp) rfl
              rw [eg] at q42
              have e0 : v 45 = (.bool true) := HD.out ⟨12, .data⟩ (by simp) rfl
              rw [e0] at q45
              have e1 : v 55 = (.bool false) := HD.out ⟨22, .data⟩ (by simp) rfl
              rw [e1] at q55
              clear hin hout ho hi
              go_simp
              exact hK _ _ (Below.refl _ _) rfl
            · obtain rfl := Option.some.inj ho
              have q42 := hin 42 (by decide)
              have q56 := hin 56 (by decide)
              have e0 : v 42 = (.bool false) := HD.out ⟨9, .data⟩ (by simp) rfl
              rw [e0] at q42
              have e1 : v 56 = (.bool false) := HD.out ⟨23, .data⟩ (by simp) rfl
              rw [e1] at q56
              clear hin hout ho hi
              go_simp
              exact hK _ _ (Below.refl _ _) rfl
            · obtain rfl := Option.some.inj ho
              have q57 := hin 57 (by decide)
              have e0 : v 57 = (.bool false) := HD.out ⟨24, .data⟩ (by simp) rfl
              rw [e0] at q57
              clear hin hout ho hi
              go_simp
              exact hK _ _ (Below.refl _ _) rfl
            · obtain rfl := Option.some.inj ho
              have q58 := hin 58 (by decide)
              have sl7 : T'[7]? = some (.pointer (some ⟨gb, 0, none⟩)) := (hout 7 (by decide)).trans rfl
              have eg : v 58 = (.bool false) := HD.out ⟨25, .guard⟩ (by simp) rfl
              rw [eg] at q58
              clear hin hout ho hi
              go_simp
              exact hK _ _ (Below.refl _ _) rfl
            · obtain rfl := Option.some.inj ho
              have q58 := hin 58 (by decide)
              have q59 := hin 59 (by decide)
              have eg : v 58 = (.bool false) := HD.out ⟨25, .guard⟩ (by simp) rfl
              rw [eg] at q58
              have e1 : v 59 = (.pointer (some ⟨gb, 1, none⟩)) := HD.out ⟨26, .data⟩ (by simp) rfl
              rw [e1] at q59
              obtain ⟨j1, j2⟩ := And.intro ((HF.out.cell (p := ⟨gb, 1, none⟩) hbx.out.2.2.2).trans hbx.out.2.1) ((HF.out.cell (p := ⟨gb, 2, none⟩) hbx.out.2.2.2).trans hbx.out.2.2.1)
              have hP := (rfl : (Value.agg #[.int .i64 ck, .int .i64 lk]) = .agg #[.int .i64 ck, .int .i64 lk])
              clear hin hout ho hi
              go_simp
              exact hK _ _ (Below.refl _ _) hP
            · obtain rfl := Option.some.inj ho
              have q58 := hin 58 (by decide)
              have q60 := hin 60 (by decide)
              have eg : v 58 = (.bool false) := HD.out ⟨25, .guard⟩ (by simp) rfl
              rw [eg] at q58
              have e0 : v 60 = (.agg #[.int .i64 ck, .int .i64 lk]) := HD.out ⟨27, .data⟩ (by simp) rfl
              rw [e0] at q60
              clear hin hout ho hi
              go_simp
              (with_reducible refine (HVv.out _).mono ?_)
              rintro e w2 ⟨u, rfl, hu, hB⟩
              exact hK _ _ hB hu
            · obtain rfl := Option.some.inj ho
              have q58 := hin 58 (by decide)
              have q61 := hin 61 (by decide)
              have eg : v 58 = (.bool false) := HD.out ⟨25, .guard⟩ (by simp) rfl
              rw [eg] at q58
              have e0 : v 61 = (.bool true) := HD.out ⟨28, .data⟩ (by simp) rfl
              rw [e0] at q61
              clear hin hout ho hi
              go_simp
              exact hK _ _ (Below.refl _ _) rfl
            · obtain rfl := Option.some.inj ho
              have q58 := hin 58 (by decide)
              have q62 := hin 62 (by decide)
              have e0 : v 58 = (.bool false) := HD.out ⟨25, .data⟩ (by simp) rfl
              rw [e0] at q58
              have e1 : v 62 = (.bool false) := HD.out ⟨29, .data⟩ (by simp) rfl
              rw [e1] at q62
              clear hin hout ho hi
              go_simp
              exact hK _ _ (Below.refl _ _) rfl
            · obtain rfl := Option.some.inj ho
              have q63 := hin 63 (by decide)
              have e0 : v 63 = (.bool false) := HD.out ⟨30, .data⟩ (by simp) rfl
              rw [e0] at q63
              clear hin hout ho hi
              go_simp
              exact hK _ _ (Below.refl _ _) rfl
            · obtain rfl := Option.some.inj ho
              have q64 := hin 64 (by decide)
              have sl7 : T'[7]? = some (.pointer (some ⟨gb, 0, none⟩)) := (hout 7 (by decide)).trans rfl
              have eg : v 64 = (.bool false) := HD.out ⟨31, .guard⟩ (by simp) rfl
              rw [eg] at q64
              clear hin hout ho hi
              go_simp
              exact hK _ _ (Below.refl _ _) rfl
            · obtain rfl := Option.some.inj ho
              have q64 := hin 64 (by decide)
              have q65 := hin 65 (by decide)
              have eg : v 64 = (.bool false) := HD.out ⟨31, .guard⟩ (by simp) rfl
              rw [eg] at q64
              have e0 : v 65 = (.pointer (some ⟨gb, 1, none⟩)) := HD.out ⟨32, .data⟩ (by simp) rfl
              rw [e0] at q65
              clear hin hout ho hi
              go_simp
              exact hK _ _ (Below.refl _ _) rfl
            · obtain rfl := Option.some.inj ho
              have q64 := hin 64 (by decide)
              have q66 := hin 66 (by decide)
              have eg : v 64 = (.bool false) := HD.out ⟨31, .guard⟩ (by simp) rfl
              rw [eg] at q64
              have e1 : v 66 = (.pointer (some ⟨gb, 1, none⟩)) := HD.out ⟨33, .data⟩ (by simp) rfl
              rw [e1] at q66
              have j1 := (HF.out.cell (p := ⟨gb, 1, none⟩) hbx.out.2.2.2).trans hbx.out.2.1
              have hP := (rfl : (Value.int .i64 ck) = .int .i64 ck)
              clear hin hout ho hi
              go_simp
              exact hK _ _ (Below.refl _ _) hP
            · obtain rfl := Option.some.inj ho
              have q64 := hin 64 (by decide)
              have q67 := hin 67 (by decide)
              have eg : v 64 = (.bool false) := HD.out ⟨31, .guard⟩ (by simp) rfl
              rw [eg] at q64
              have e0 : v 67 = (.int .i64 ck) := HD.out ⟨34, .data⟩ (by simp) rfl
              rw [e0] at q67
              clear hin hout ho hi
              go_simp
              exact hK _ _ (Below.refl _ _) rfl
            · obtain rfl := Option.some.inj ho
              have q64 := hin 64 (by decide)
              have q68 := hin 68 (by decide)
              have e0 : v 64 = (.bool false) := HD.out ⟨31, .data⟩ (by simp) rfl
              rw [e0] at q64
              have e1 : v 68 = (.bool (decide (ck ≤ 0))) := HD.out ⟨35, .data⟩ (by simp) rfl
              rw [e1] at q68
              clear hin hout ho hi
              go_simp
              exact hK _ _ (Below.refl _ _) rfl
          · intro v wx hF hall
            have HX4 := Lib.hid hF
            have e69 : v 69 = .bool (decide (ck ≤ 0)) := hall 36 (by omega)
            clear hall hF
            simp only [over, List.setIfInBounds_toArray, List.set_cons_zero, List.set_cons_succ]
            rw [e69]
            generalize v 33 = v33
            generalize v 34 = v34
            generalize v 35 = v35
            generalize v 36 = v36
            generalize v 37 = v37
            generalize v 38 = v38
            generalize v 39 = v39
            generalize v 40 = v40
            generalize v 41 = v41
            generalize v 42 = v42
            generalize v 43 = v43
            generalize v 44 = v44
            generalize v 45 = v45
            generalize v 46 = v46
            generalize v 47 = v47
            generalize v 48 = v48
            generalize v 49 = v49
            generalize v 50 = v50
            generalize v 51 = v51
            generalize v 52 = v52
            generalize v 53 = v53
            generalize v 54 = v54
            generalize v 55 = v55
            generalize v 56 = v56
            generalize v 57 = v57
            generalize v 58 = v58
            generalize v 59 = v59
            generalize v 60 = v60
            generalize v 61 = v61
            generalize v 62 = v62
            generalize v 63 = v63
            generalize v 64 = v64
            generalize v 65 = v65
            generalize v 66 = v66
            generalize v 67 = v67
            generalize v 68 = v68
            clear e69
            cases g5 : decide (ck ≤ 0) with
            | true =>
              have HE : Hid (bsB ns n tw ct cl = false) := bsB_bad hlt (by rw [HC.out, g5]; simp)
              go_wp2_with fail
              go_ret
              exact ⟨by rw [HE.out]; rfl, hbel'.out.trans (HX4.out.mono hbel'.out.size)⟩
            | false =>
              have HVV : Hid (∀ i, i < k + 1 → brB ns tw ct cl i = true) := fun i hi => by
                by_cases e : i = k
                · rw [e, HC.out, g1, g2, HV1.out, g5, HG4.out]; rfl
                · exact hv.out i (by omega)
              have HZ := Lib.hid (hbel'.out.trans (HX4.out.mono hbel'.out.size))
              have hbrz := Lib.hid (hbr'.out.keep HX4.out)
              have hwz := Lib.hid (hw6'.out.keep HX4.out)
              have hpz := Lib.hid (hpb'.out.keep HX4.out)
              have hbz := Lib.hid (hbx.out.keep HX4.out)
              have HTv : Hid (∀ wx, Calls Tryz.prog 98 #[.agg #[.int .i64 ck, .int .i64 lk]] wx (RetV (.rat (fr ck lk)) wx)) := fun wx => HT.out wx HV1.out
              have HPv : Hid (∀ wx u u', RFV wx u (chSum ct cl k) → RFV wx u' (fr ck lk) → Calls Tryz.prog 97 #[u, u'] wx (RetV (.rat (chSum ct cl (k + 1))) wx)) := fun wx u u' => HP.out wx u u' (fun i hi => by
                by_cases e : i = k
                · rw [e, HCK.out, HLK.out]; exact HV1.out
                · exact HVL.out i (by omega))
              clear HX4 hbel' hbr' hw6' hpb' hbx HT HP HV1 hv HC HPV' HVv g5
              go_upto_region 9 with fail
              generalize hZZ : wx = Z at *
              clear hZZ
              generalize hx0 : chSum ct cl k = x0 at *
              obtain ⟨x1, hx1⟩ : ∃ x1, Hid (chSum ct cl (k + 1) = x1) := ⟨_, rfl⟩
              rw [hx1.out] at HPv
              generalize fr ck lk = fk at *
              obtain ⟨s1, neg1, A1, n1, c1, s2, neg2, A2, n2, c2, hB6, hR1, hR2⟩ := hbrz.out
              have HBX := Lib.hid hB6
              have HR := Lib.hid (And.intro hR1 hR2)
              clear hB6 hR1 hR2 hbrz hx0
              refine wp_region_flow_store 5 [70, 71, 72, 73, 74] (fun i => 70 + i) (Below Z.heap.size Z) (EndC w (some ⟨b, off, none⟩) n c g0 x1) (Spl [.rat x0, .val (.pointer (some ⟨gb, 1, none⟩)), .val (.agg #[.int .i64 ck, .int .i64 lk]), .rat fk, .rat x1]) (by kernel_rfl) (by kernel_rfl) (by kernel_rfl) (by kernel_rfl) (by kernel_rfl) (fun i j _ _ h => Nat.add_left_cancel (show 70 + i = 70 + j from h)) (by decide) (fun wx wy (h : Below Z.heap.size Z wx) hb => h.trans (hb.mono h.size)) Spl.keep ?_ ?_ ?_ ?_
              · exact Below.drew (Below.refl _ _)
              · intro i v wx o T' K hi ho hF hdep hin hout hK
                have HF := Lib.hid hF
                have HD := Lib.hid hdep
                clear hF hdep
                rcases (by omega : i = 0 ∨ i = 1 ∨ i = 2 ∨ i = 3 ∨ i = 4) with rfl | rfl | rfl | rfl | rfl
                · obtain rfl := Option.some.inj ho
                  have sl5 : T'[5]? = some (.pointer (some ⟨g0, 0, none⟩)) := (hout 5 (by decide)).trans rfl
                  obtain ⟨k0, k1, k2, k3, k4, k5, -⟩ := HBX.out.keep HF.out
                  have hP := (⟨s1, neg1, A1, n1, c1, s2, neg2, A2, n2, c2, rfl, HR.out.1.keep HF.out, HR.out.2.keep HF.out⟩ : RFV wx (.agg #[.int .i64 s1, .bool neg1, .slice A1 n1 c1, .int .i64 s2, .bool neg2, .slice A2 n2 c2]) x0)
                  clear hin hout ho hi
                  go_simp
                  exact hK _ _ (Below.refl _ _) hP
                · obtain rfl := Option.some.inj ho
                  have sl7 : T'[7]? = some (.pointer (some ⟨gb, 0, none⟩)) := (hout 7 (by decide)).trans rfl
                  clear hin hout ho hi
                  go_simp
                  exact hK _ _ (Below.refl _ _) rfl
                · obtain rfl := Option.some.inj ho
                  have q71 := hin 71 (by decide)
                  have e1 : v 71 = (.pointer (some ⟨gb, 1, none⟩)) := HD.out ⟨1, .data⟩ (by simp) rfl
                  rw [e1] at q71
                  obtain ⟨j0, j1⟩ := And.intro ((HF.out.cell (p := ⟨gb, 1, none⟩) hbz.out.2.2.2).trans hbz.out.2.1) ((HF.out.cell (p := ⟨gb, 2, none⟩) hbz.out.2.2.2).trans hbz.out.2.2.1)
                  have hP := (rfl : (Value.agg #[.int .i64 ck, .int .i64 lk]) = .agg #[.int .i64 ck, .int .i64 lk])
                  clear hin hout ho hi
                  go_simp
                  exact hK _ _ (Below.refl _ _) hP
                · obtain rfl := Option.some.inj ho
                  have q72 := hin 72 (by decide)
                  have e0 : v 72 = (.agg #[.int .i64 ck, .int .i64 lk]) := HD.out ⟨2, .data⟩ (by simp) rfl
                  rw [e0] at q72
                  clear hin hout ho hi
                  go_simp
                  (with_reducible refine (HTv.out _).mono ?_)
                  rintro e w2 ⟨u, rfl, hu, hB⟩
                  exact hK _ _ hB hu
                · obtain rfl := Option.some.inj ho
                  have q70 := hin 70 (by decide)
                  have q73 := hin 73 (by decide)
                  have h0 : RFV wx (v 70) x0 := HD.out ⟨0, .data⟩ (by simp) rfl
                  have h1 : RFV wx (v 73) fk := HD.out ⟨3, .data⟩ (by simp) rfl
                  clear hin hout ho hi
                  go_simp
                  (with_reducible refine (HPv.out _ _ _ h0 h1).mono ?_)
                  rintro e w2 ⟨u, rfl, hu, hB⟩
                  exact hK _ _ hB hu
              · intro v wx o T' K ho hF hall hin hout hK
                obtain rfl := Option.some.inj ho
                have sl5 : T'[5]? = some (.pointer (some ⟨g0, 0, none⟩)) := (hout 5 (by decide)).trans rfl
                have q74 := hin 74 (by decide)
                have h0 : RFV wx (v 74) x1 := hall 4 (by decide)
                clear hin hout hall ho
                obtain ⟨s5, n5, A5, m5, c5, s6, n6, A6, m6, c6, e5, h5, h6⟩ := h0
                rw [e5] at q74
                have HRR := Lib.hid (chEnd hlg HZ.out hF (hwz.out.keep hF) (hpz.out.keep hF) h5 h6)
                obtain ⟨⟨o0, o1, o2, o3, o4, o5, p0, p1, p2, p3, p4, p5⟩, ⟨f0, f1, f2, f3, f4, f5⟩, -⟩ := hwz.out.keep hF
                clear e5 h5 h6 hF
                go_simp
                exact hK _ HRR.out
              · intro v wx hE
                have HE := Lib.hid hE
                clear hE
                simp only [over, List.setIfInBounds_toArray, List.set_cons_zero, List.set_cons_succ]
                generalize v 70 = v70
                generalize v 71 = v71
                generalize v 72 = v72
                generalize v 73 = v73
                generalize v 74 = v74
                go_wp2_with fail
                exact ⟨⟨k + 1, Lib.hid (by omega), by rw [show ((k + 1 : Nat) : Int) = (k : Int) + 1 from by omega], HVV, Lib.hid (by show BR _ _ _; rw [hx1.out]; exact HE.out.1), Lib.hid HE.out.2.1, Lib.hid HE.out.2.2.1, Lib.hid HE.out.2.2.2⟩, by simp [intOf]; omega⟩
    · have hke : k = n := by have := hk.out; omega
      have hlt' : ¬ (k : Int) < (n : Int) := by omega
      have HE : Hid (bsB ns n tw ct cl = decide (chSum ct cl n = 1)) := bsB_end hn1 hn (fun i hi => hv.out i (by omega))
      have HVA : Hid (∀ i, i < n → vld (ct i) (cl i) = true) := fun i hi => (brB_open (hv.out i (by omega))).2.2.1
      have hbr2 : Hid (BR wr g0 (chSum ct cl n)) := by rw [← hke]; exact hbr.out
      have HCm : Hid (∀ wx u u', RFV wx u (chSum ct cl n) → RFV wx u' 1 → Calls Tryz.prog 99 #[u, u'] wx (RetV (.val (.int .i64 (sgnI (chSum ct cl n - 1).num))) wx)) := fun wx u u' => HH.out.cmp wx u u' HVA.out
      have HSG : Hid (decide (chSum ct cl n = 1) = (sgnI (chSum ct cl n - 1).num == 0)) := sgn_one _
      generalize sgnI (chSum ct cl n - 1).num = sg at *
      generalize chSum ct cl n = x0 at *
      clear hke hv hbr hpb HH
      go_upto_region 11 with fail
      generalize hZZ : wr = Z at *
      clear hZZ
      obtain ⟨s1, neg1, A1, n1, c1, s2, neg2, A2, n2, c2, hB6, hR1, hR2⟩ := hbr2.out
      have HBX := Lib.hid hB6
      have HR := Lib.hid (And.intro hR1 hR2)
      clear hB6 hR1 hR2 hbr2
      refine wp_region_flow 5 [76, 77, 78, 79, 4] (fun i => if i = 4 then 4 else 76 + i) (Below Z.heap.size Z) (Spl [.rat x0, .rat 1, .val (.int .i64 sg), .val (.bool (sg == 0)), .val (.bool (sg == 0))]) (by kernel_rfl) (by kernel_rfl) (by kernel_rfl) (by kernel_rfl) (fun i j hi hj h => by have h : (if i = 4 then 4 else 76 + i) = (if j = 4 then 4 else 76 + j) := h; split at h <;> split at h <;> omega) (by decide) (fun wx wy (h : Below Z.heap.size Z wx) hb => h.trans (hb.mono h.size)) Spl.keep ?_ ?_ ?_
      · exact Below.drew (Below.refl _ _)
      · intro i v wx o T' K ho hF hdep hin hout hK
        have hi : i < 5 := (Array.getElem?_eq_some_iff.1 ho).1
        have HF := Lib.hid hF
        have HD := Lib.hid hdep
        clear hF hdep
        rcases (by omega : i = 0 ∨ i = 1 ∨ i = 2 ∨ i = 3 ∨ i = 4) with rfl | rfl | rfl | rfl | rfl
        · obtain rfl := Option.some.inj ho
          have sl5 : T'[5]? = some (.pointer (some ⟨g0, 0, none⟩)) := (hout 5 (by decide)).trans rfl
          obtain ⟨k0, k1, k2, k3, k4, k5, -⟩ := HBX.out.keep HF.out
          have hP := (⟨s1, neg1, A1, n1, c1, s2, neg2, A2, n2, c2, rfl, HR.out.1.keep HF.out, HR.out.2.keep HF.out⟩ : RFV wx (.agg #[.int .i64 s1, .bool neg1, .slice A1 n1 c1, .int .i64 s2, .bool neg2, .slice A2 n2 c2]) x0)
          clear hin hout ho hi
          go_simp
          exact hK _ _ (Below.refl _ _) hP
        · obtain rfl := Option.some.inj ho
          clear hin hout ho hi
          go_simp
          (with_reducible refine (HW1.out _).mono ?_)
          rintro e w2 ⟨u, rfl, hu, hB⟩
          exact hK _ _ hB hu
        · obtain rfl := Option.some.inj ho
          have q76 := hin 76 (by decide)
          have q77 := hin 77 (by decide)
          have h0 : RFV wx (v 76) x0 := HD.out ⟨0, .data⟩ (by simp) rfl
          have h1 : RFV wx (v 77) 1 := HD.out ⟨1, .data⟩ (by simp) rfl
          clear hin hout ho hi
          go_simp
          (with_reducible refine (HCm.out _ _ _ h0 h1).mono ?_)
          rintro e w2 ⟨u, rfl, hu, hB⟩
          exact hK _ _ hB hu
        · obtain rfl := Option.some.inj ho
          have q78 := hin 78 (by decide)
          have e0 : v 78 = (.int .i64 sg) := HD.out ⟨2, .data⟩ (by simp) rfl
          rw [e0] at q78
          clear hin hout ho hi
          go_simp
          exact hK _ _ (Below.refl _ _) rfl
        · obtain rfl := Option.some.inj ho
          have q79 := hin 79 (by decide)
          have e0 : v 79 = (.bool (sg == 0)) := HD.out ⟨3, .data⟩ (by simp) rfl
          rw [e0] at q79
          clear hin hout ho hi
          go_simp
          exact hK _ _ (Below.refl _ _) rfl
      · intro v wx hF hall
        have HX4 := Lib.hid hF
        have e4 : v 4 = .bool (sg == 0) := hall 4 (by omega)
        clear hall hF
        simp only [over, List.setIfInBounds_toArray, List.set_cons_zero, List.set_cons_succ]
        rw [e4]
        generalize v 76 = v76
        generalize v 77 = v77
        generalize v 78 = v78
        generalize v 79 = v79
        clear e4
        generalize hbb : (sg == 0) = bb at *
        go_wp2_with fail
        go_ret
        exact ⟨by rw [HE.out, HSG.out]; rfl, hbel.out.trans (HX4.out.mono hbel.out.size)⟩
theorem rchoice_any (h : ChV) (ns : Nat) (w : World) (hn : h.n ≤ 1000000) (hns : ns ≤ 1000000) (hA : Lbr w h.A h.n h.tw h.ct h.cl) :
    Calls Tryz.prog 54 #[.agg #[.int .i64 h.t, .int .i64 h.l, .slice h.A h.n h.c], .int .i64 (ns : Int)] w fun e w' => e = .returned (.bool (chB ns h)) ∧ Below w.heap.size w w' := by
  obtain ⟨t, l, A, n, c, tw, ct, cl⟩ := h
  unfold chB
  simp only at *
  cases hv : vld t l with
  | false => exact rchoice_w1 t l A n c ns w hn hv
  | true =>
  rw [Bool.true_and]
  cases t1 : decide ((n : Int) < 1) with
  | true => rw [bsB_short (by have : (n : Int) < 1 := of_decide_eq_true t1
                              omega)]; exact rchoice_w2 t l A n c ns w hn hv t1
  | false =>
  cases t2 : decide ((8 : Int) < (n : Int)) with
  | true => rw [bsB_long (by have : (8 : Int) < (n : Int) := of_decide_eq_true t2
                             omega)]; exact rchoice_w3 t l A n c ns w hn hv t1 t2
  | false =>
  have h1 : 1 ≤ n := by
    have : ¬ (n : Int) < 1 := of_decide_eq_false t1
    omega
  have h8 : n ≤ 8 := by
    have : ¬ (8 : Int) < (n : Int) := of_decide_eq_false t2
    omega
  exact rchoice_ok t l A n c ns tw ct cl w h1 h8 hns hv hA
end Go.Proofs.YtmfnpipmbpnfbaaGreatDoor
