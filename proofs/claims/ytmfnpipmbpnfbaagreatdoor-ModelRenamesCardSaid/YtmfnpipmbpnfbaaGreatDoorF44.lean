/- The reference's Renamed: a model that is built by append, states in the order that is asked, branches by their new names. -/
import Derived.Test.YtmfnpipmbpnfbaaGreatDoorF40
import Derived.Test.YtmfnpipmbpnfbaaGreatDoorF42
import Derived.Test.YtmfnpipmbpnfbaaGreatDoorF43
import Derived.Test.YtmfnpipmbpnfbaaGreatDoorF29

set_option maxRecDepth 100000
set_option maxHeartbeats 40000000
namespace Go.Proofs.YtmfnpipmbpnfbaaGreatDoor
open Go.RowKit
theorem below_eqr {X Y : World} {o : Obj} (h : X.alloc o = Y) : Below X.heap.size X Y := by
  rw [← h]
  exact below_alloc _ _
theorem alloc_2r {w Z : World} {T T' : Nat} {a b : Value} (h : (w.alloc (.cells #[a] T)).alloc (.cells #[b] T') = Z) : Below w.heap.size w Z ∧ B1 Z w.heap.size T a ∧ B1 Z (w.heap.size + 1) T' b := by
  have e1 : (w.alloc (.cells #[a] T)).heap.size = w.heap.size + 1 := by simp
  have h2 := B1.new (w.alloc (.cells #[a] T)) T' b
  rw [e1, h] at h2
  have h1 := (B1.new w T a).keep (below_alloc _ (.cells #[b] T'))
  rw [h] at h1
  have hb := (below_alloc w (.cells #[a] T)).trans ((below_alloc _ (.cells #[b] T')).mono (below_alloc _ _).size)
  rw [h] at hb
  exact ⟨hb, h1, h2⟩
inductive Sn where
  | val (v : Value)
  | box (lo : Nat)
def Sn.ok : Sn → Value → World → Prop
  | .val v, u, _ => u = v
  | .box lo, u, w => ∃ g, u = .pointer (some ⟨g, 0, none⟩) ∧ lo ≤ g ∧ Bw w g 53 (.int .i64 0) (.int .i64 0) (.slice none 0 0)
def Snl (L : List Sn) (i : Nat) (u : Value) (w : World) : Prop := (L.getD i (.val (.int .i64 0))).ok u w
theorem Snl.keep {L : List Sn} (i : Nat) (u : Value) (w w' : World) (hb : Below w.heap.size w w') (h : Snl L i u w) : Snl L i u w' := by
  unfold Snl at h ⊢
  generalize L.getD i (.val (.int .i64 0)) = s at h ⊢
  cases s with
  | val v => exact h
  | box lo => obtain ⟨g, e, h1, h2⟩ := h; exact ⟨g, e, h1, h2.keep hb⟩
def RetRr (nm : Nat → Int) (n : Nat) (tg : Nat → StV) (w : World) (e : Ending) (w' : World) : Prop := ∃ A c st, e = .returned (.agg #[.slice A n c]) ∧ LstP (fun b => w.heap.size ≤ b) w' A n st ∧ (∀ i, i < n → ReS nm (tg i) (st i)) ∧ Below w.heap.size w w'
def Cpr (nm : Nat → Int) (base gx : Nat) (ow mrk : Int) (u : Value) (j : Nat) (src : Nat → ChV) (w : World) : Prop := Bw w gx 53 (.int .i64 ow) (.int .i64 mrk) u ∧ ∃ ch, OwnC base w u j ch ∧ ∀ i, i < j → ReC nm (src i) (ch i)
def Bpr (nm : Nat → Int) (base gd : Nat) (h : ChV) (i q : Nat) (w : World) : Prop := ∃ u h', Bw w gd 65 (.int .i64 h.t) (.int .i64 h.l) u ∧ OwnB base w u h' ∧ Sel nm h i q h'
theorem rrenamed_core (A B : Option Addr) (n c d : Nat) (st : Nat → StV) (f : Nat → Int) (nm : Nat → Int) (w : World) (hn : n ≤ 40)
    (hA : Lst w A n st) (hB : Lin w B n f) (hin : ∀ i, i < n → 0 ≤ f i ∧ f i < (n : Int)) (hzm : ∀ x, x < n → zmF f n x = nm x) (hnr : ∀ x, x < n → 0 ≤ nm x ∧ nm x < (n : Int)) (hni : ∀ x y, x < n → y < n → nm x = nm y → x = y)
    (htw : ∀ i j, i < n → j < (st i).n → Inc ((st i).ch j).n ((st i).ch j).tw ∧ ∀ q, q < ((st i).ch j).n → 0 ≤ ((st i).ch j).tw q ∧ (((st i).ch j).tw q).toNat < n)
    (hsz : ∀ i, i < n → (st i).n ≤ 8) (hbz : ∀ i j, i < n → j < (st i).n → ((st i).ch j).n ≤ 8) :
    Calls Tryz.prog 73 #[.agg #[.slice A n c], .slice B n d] w (RetRr nm n (fun i => st (f i).toNat) w) := by
  have HN := Lib.hid hn
  have HA := Lib.hid hA
  have HBL := Lib.hid hB
  have HIN := Lib.hid hin
  have HZM := Lib.hid hzm
  have HNR := Lib.hid hnr
  have HNI := Lib.hid hni
  have HTW := Lib.hid htw
  have HSZ := Lib.hid hsz
  have HBZ := Lib.hid hbz
  clear hn hA hB hin hzm hnr hni htw hsz hbz
  go_enter Tryz.func73, Tryz.ntmps73
  go_upto_region 1 with fail
  generalize hZ : World.alloc _ _ = Z
  have HZ : Hid (Below w.heap.size w Z ∧ B1 Z w.heap.size 24 (.slice A n c) ∧ B1 Z (w.heap.size + 1) 24 (.slice none 0 0)) := Lib.hid (alloc_2r hZ)
  clear hZ
  have HZB := Lib.hid HZ.out.1
  have X0 := Lib.hid HZ.out.2.1
  have X1 := Lib.hid HZ.out.2.2
  clear HZ
  have hn40 : n ≤ 40 := HN.out
  have hmk := make_ints n (by omega)
  go_wp2_with fail
  clear hmk hn40
  generalize hY : Z.alloc _ = Y
  have hbz := below_eqr hY
  have HR : Hid (RowZ Y Z.heap.size n (zmF f 0)) := by rw [← hY]; exact Lib.hid (RowZ.new _ _)
  have HG : Hid (w.heap.size + 1 < Z.heap.size) := Lib.hid X1.out.lt
  have HYB : Hid (Below w.heap.size w Y) := Lib.hid (HZB.out.trans (hbz.mono HZB.out.size))
  replace X0 := Lib.hid (X0.out.keep hbz)
  replace X1 := Lib.hid (X1.out.keep hbz)
  clear hY hbz HZB
  generalize Z.heap.size = g at *
  go_loopw [23] (fun i wr => ∃ k : Nat, Hid (k ≤ n) ∧ i = .int .i64 (k : Int) ∧ Hid (RowZ wr g n (zmF f k)) ∧ Hid (Below g Y wr)) (fun i _ => n - (intOf i).toNat)
  case atStart => exact ⟨0, Nat.zero_le _, rfl, HR, Lib.hid (Below.refl _ _)⟩
  case round =>
    clear HR
    obtain ⟨k, hk, rfl, hR, hBY⟩ := hrel
    have HWB : Hid (Below w.heap.size w wr) := Lib.hid (HYB.out.trans (hBY.out.mono (by have := HG.out; omega)))
    by_cases hlt : k < n
    · have hlt' : (k : Int) < (n : Int) := by omega
      obtain ⟨b, off, rfl, -, hc⟩ := (HBL.out.keep HWB.out) (by omega)
      have a0 := hc k hlt
      have hin := HIN.out k hlt
      have HSTEP : Hid (∀ x, zmF f (k + 1) x = if x = (f k).toNat then (k : Int) else zmF f k x) := Lib.hid fun x => rfl
      generalize f k = fk at a0 hin HSTEP
      obtain ⟨x, rfl⟩ := Int.eq_ofNat_of_zero_le hin.1
      have hx : x < n := by omega
      have g2' : (x : Int) < (n : Int) := by omega
      have r0 := hR.out.cell hx
      have f0 := hR.out.frozen x
      have hgl := hR.out.lt
      have hn40 : n ≤ 40 := HN.out
      have HRR : Hid (RowZ (wr.setCell ⟨g, x, none⟩ (.int .i64 (k : Int))) g n (zmF f (k + 1))) := Lib.hid (World.rowIs.congr (hR.out.set x (k : Int)) fun j _ => by
        show Value.int .i64 (if j = x then (k : Int) else zmF f k j) = Value.int .i64 (zmF f (k + 1) j)
        rw [HSTEP.out j, Int.toNat_natCast])
      have HB2 := Lib.hid (hBY.out.setCell (p := ⟨g, x, none⟩) (Nat.le_refl _) (.int .i64 (k : Int)))
      generalize zmF f k x = y at r0
      clear hR hc hin hBY HWB
      go_wp2_with fail
      exact ⟨⟨k + 1, Lib.hid (by omega), by rw [show ((k + 1 : Nat) : Int) = (k : Int) + 1 from by omega], HRR, HB2⟩, by simp [intOf]; omega⟩
    · have hke : n = k := by have := hk.out; omega
      have hlt' : ¬ (k : Int) < (n : Int) := by omega
      subst hke
      have HRN : Hid (RowZ wr g n nm) := Lib.hid (World.rowIs.congr hR.out fun j hj => by rw [HZM.out j hj])
      have HX0r : Hid (B1 wr w.heap.size 24 (.slice A n c)) := Lib.hid (X0.out.block (hBY.out.block _ (by have := HG.out; omega)))
      have HX1r : Hid (B1 wr (w.heap.size + 1) 24 (.slice none 0 0)) := Lib.hid (X1.out.block (hBY.out.block _ (by have := HG.out; omega)))
      clear hR X0 X1 hBY
      go_upto_region 8 with fail
      generalize hV : wr.alloc _ = V
      have hbv := below_eqr hV
      have HO : Hid (B1 V wr.heap.size 24 (.slice none 0 0)) := by rw [← hV]; exact Lib.hid (B1.new _ _ _)
      have HSV : Hid (V.heap.size = wr.heap.size + 1) := by rw [← hV]; exact Lib.hid (by simp)
      have HGV : Hid (w.heap.size + 1 < wr.heap.size) := Lib.hid HX1r.out.lt
      have HENV : Hid (∀ wx, Below wr.heap.size V wx → Below w.heap.size w wx ∧ B1 wx w.heap.size 24 (.slice A n c) ∧ RowZ wx g n nm ∧ Lst wx A n st ∧ Lin wx B n f ∧ B1 wx (w.heap.size + 1) 24 (.slice none 0 0)) := Lib.hid fun wx hx => by
        have h0 : Below w.heap.size w V := HWB.out.trans (hbv.mono HWB.out.size)
        have h1 : Below w.heap.size w wx := h0.trans (hx.mono HWB.out.size)
        exact ⟨h1, (HX0r.out.keep hbv).block (hx.block _ HX0r.out.lt), (HRN.out.keep hbv).block (hx.block _ HRN.out.lt), HA.out.keep h1, HBL.out.keep h1, (HX1r.out.keep hbv).block (hx.block _ HX1r.out.lt)⟩
      clear hV hbv HRN HX0r HX1r HWB HYB HG hk hlt hlt'
      obtain ⟨g3, hg3⟩ : ∃ g3, wr.heap.size = g3 := ⟨_, rfl⟩
      rw [hg3] at HO HSV HGV HENV ⊢
      clear hg3
      go_wp2_with fail
      go_loopw [36] (fun i w2 => ∃ k : Nat, Hid (k ≤ n) ∧ i = .int .i64 (k : Int) ∧ (∃ v, Hid (B1 w2 g3 24 v ∧ ∃ st2, OwnS (fun b => V.heap.size ≤ b) V.heap.size w2 v k st2 ∧ ∀ i, i < k → ReS nm (st (f i).toNat) (st2 i))) ∧ Hid (Below g3 V w2)) (fun i _ => n - (intOf i).toNat)
      case atStart => exact ⟨0, Nat.zero_le _, rfl, ⟨_, Lib.hid ⟨HO.out, st, OwnS.nil _ _ _ _, fun i hi => absurd hi (by omega)⟩⟩, Lib.hid (Below.refl _ _)⟩
      case round =>
        clear HO
        obtain ⟨k, hk, rfl, ⟨v0, hO⟩, hB⟩ := hrel
        by_cases hlt : k < n
        · have hlt' : (k : Int) < (n : Int) := by omega
          have hn40 : n ≤ 40 := HN.out
          have HK40 : Hid (k ≤ 1000) := Lib.hid (by omega)
          obtain ⟨hWr, hm0, hRz, hAr, hBr, -⟩ := HENV.out wr hB.out
          have HX0 := Lib.hid hm0
          obtain ⟨b1, off1, hBe, -, hc1⟩ := hBr (by omega)
          have a0 := hc1 k hlt
          obtain ⟨x, hx⟩ := Int.eq_ofNat_of_zero_le (HIN.out k hlt).1
          have hxn : x < n := by have := (HIN.out k hlt).2; omega
          have HFX : Hid ((f k).toNat = x) := Lib.hid (by rw [hx]; exact Int.toNat_natCast x)
          rw [hx] at a0
          have hxn' : (x : Int) < (n : Int) := by omega
          obtain ⟨b, off, hAe, hS3, -⟩ := hAr.at hxn
          have HTWk := Lib.hid (fun j hj => HTW.out x j hxn hj)
          have HM8 := Lib.hid (HSZ.out x hxn)
          have HBZk := Lib.hid (fun j hj => HBZ.out x j hxn hj)
          have HLW : Hid (∀ wx, Below g3 V wx → Lch wx (st x).A (st x).n (st x).ch) := Lib.hid fun wx hx => (HENV.out wx hx).2.2.2.1.2 x hxn
          generalize hsk : st x = sk at hS3 HTWk HM8 HBZk HLW
          have HSK := Lib.hid hsk
          obtain ⟨ow, mrk, D, m, dd, src⟩ := sk
          dsimp only at hS3 HTWk HM8 HBZk HLW
          obtain ⟨hbl, s0, s1, s2⟩ := hS3
          have HC : Hid (∀ wx, Below wr.heap.size wr wx → wx.cell? ⟨b, off + x * 3, none⟩ = some (.int .i64 ow) ∧ wx.cell? ⟨b, off + x * 3 + 1, none⟩ = some (.int .i64 mrk) ∧ wx.cell? ⟨b, off + x * 3 + 2, none⟩ = some (.slice D m dd)) := Lib.hid fun wx hx => ⟨(hx.cell (p := ⟨b, off + x * 3, none⟩) hbl).trans s0, (hx.cell (p := ⟨b, off + x * 3 + 1, none⟩) hbl).trans s1, (hx.cell (p := ⟨b, off + x * 3 + 2, none⟩) hbl).trans s2⟩
          have HG3r : Hid (g3 < wr.heap.size) := Lib.hid (by have h1 := hB.out.size; have h2 := HSV.out; omega)
          subst hAe
          subst hBe
          clear hsk s0 s1 s2 hbl hm0 hRz hAr hBr hc1 hx hWr
          go_upto_region 11 with fail
          clear a0
          refine wp_region_flow_storev 14 [40, 41, 42, 43, 44, 45, 46, 47, 48, 49, 50, 51, 52, 11] (fun i => if i = 13 then 11 else 40 + i) (Below wr.heap.size wr) (fun v wx => ∃ gx, v 11 = .pointer (some ⟨gx, 0, none⟩) ∧ wr.heap.size ≤ gx ∧ Bw wx gx 53 (.int .i64 ow) (.int .i64 mrk) (.slice none 0 0) ∧ Below wr.heap.size wr wx) (Snl [.val (.pointer (some ⟨w.heap.size, 0, none⟩)), .val (.slice (some ⟨b, off, none⟩) n c), .val (.int .i64 (x : Int)), .val (.pointer (some ⟨b, off + x * 3, none⟩)), .val (.pointer (some ⟨b, off + x * 3, none⟩)), .val (.int .i64 ow), .val (.pointer (some ⟨w.heap.size, 0, none⟩)), .val (.slice (some ⟨b, off, none⟩) n c), .val (.int .i64 (x : Int)), .val (.pointer (some ⟨b, off + x * 3, none⟩)), .val (.pointer (some ⟨b, off + x * 3 + 1, none⟩)), .val (.int .i64 mrk), .val (.agg #[.int .i64 ow, .int .i64 mrk, .slice none 0 0]), .box wr.heap.size]) (by kernel_rfl) (by kernel_rfl) (by kernel_rfl) (by kernel_rfl) (by kernel_rfl) (fun i j hi hj h => by have h : (if i = 13 then 11 else 40 + i) = (if j = 13 then 11 else 40 + j) := h; split at h <;> split at h <;> omega) (by decide) (fun wx wy h hb => h.trans (hb.mono h.size)) Snl.keep ?_ ?_ ?_ ?_
          · exact Below.drew (Below.refl _ _)
          · intro i v wx o T' K hi ho hF hdep hin hout hK
            have HF := Lib.hid hF
            have HD := Lib.hid hdep
            clear hF hdep
            rcases (by omega : i = 0 ∨ i = 1 ∨ i = 2 ∨ i = 3 ∨ i = 4 ∨ i = 5 ∨ i = 6 ∨ i = 7 ∨ i = 8 ∨ i = 9 ∨ i = 10 ∨ i = 11 ∨ i = 12 ∨ i = 13) with rfl | rfl | rfl | rfl | rfl | rfl | rfl | rfl | rfl | rfl | rfl | rfl | rfl | rfl
            · obtain rfl := Option.some.inj ho
              have sl2 : T'[2]? = some (.pointer (some ⟨w.heap.size, 0, none⟩)) := (hout 2 (by decide)).trans rfl
              clear hin hout ho hi
              go_simp
              exact hK _ _ (Below.refl _ _) rfl
            · obtain rfl := Option.some.inj ho
              have q40 := hin 40 (by decide)
              have e1 : v 40 = (.pointer (some ⟨w.heap.size, 0, none⟩)) := HD.out ⟨0, .data⟩ (by simp) rfl
              rw [e1] at q40
              have k0 := ((HX0.out.keep HF.out).out)
              have hP := (rfl : Value.slice (some ⟨b, off, none⟩) n c = .slice (some ⟨b, off, none⟩) n c)
              clear hin hout ho hi
              go_simp
              exact hK _ _ (Below.refl _ _) hP
            · obtain rfl := Option.some.inj ho
              have sl10 : T'[10]? = some (.int .i64 (x : Int)) := (hout 10 (by decide)).trans rfl
              clear hin hout ho hi
              go_simp
              exact hK _ _ (Below.refl _ _) rfl
            · obtain rfl := Option.some.inj ho
              have q41 := hin 41 (by decide)
              have q42 := hin 42 (by decide)
              have e0 : v 41 = (.slice (some ⟨b, off, none⟩) n c) := HD.out ⟨1, .data⟩ (by simp) rfl
              rw [e0] at q41
              have e1 : v 42 = (.int .i64 (x : Int)) := HD.out ⟨2, .data⟩ (by simp) rfl
              rw [e1] at q42
              clear hin hout ho hi
              go_simp
              exact hK _ _ (Below.refl _ _) rfl
            · obtain rfl := Option.some.inj ho
              have q43 := hin 43 (by decide)
              have e0 : v 43 = (.pointer (some ⟨b, off + x * 3, none⟩)) := HD.out ⟨3, .data⟩ (by simp) rfl
              rw [e0] at q43
              clear hin hout ho hi
              go_simp
              exact hK _ _ (Below.refl _ _) rfl
            · obtain rfl := Option.some.inj ho
              have q44 := hin 44 (by decide)
              have e1 : v 44 = (.pointer (some ⟨b, off + x * 3, none⟩)) := HD.out ⟨4, .data⟩ (by simp) rfl
              rw [e1] at q44
              obtain ⟨k0, k1, k2⟩ := HC.out wx HF.out
              have hP := (rfl : Value.int .i64 ow = .int .i64 ow)
              clear hin hout ho hi
              go_simp
              exact hK _ _ (Below.refl _ _) hP
            · obtain rfl := Option.some.inj ho
              have sl2 : T'[2]? = some (.pointer (some ⟨w.heap.size, 0, none⟩)) := (hout 2 (by decide)).trans rfl
              clear hin hout ho hi
              go_simp
              exact hK _ _ (Below.refl _ _) rfl
            · obtain rfl := Option.some.inj ho
              have q46 := hin 46 (by decide)
              have e1 : v 46 = (.pointer (some ⟨w.heap.size, 0, none⟩)) := HD.out ⟨6, .data⟩ (by simp) rfl
              rw [e1] at q46
              have k0 := ((HX0.out.keep HF.out).out)
              have hP := (rfl : Value.slice (some ⟨b, off, none⟩) n c = .slice (some ⟨b, off, none⟩) n c)
              clear hin hout ho hi
              go_simp
              exact hK _ _ (Below.refl _ _) hP
            · obtain rfl := Option.some.inj ho
              have sl10 : T'[10]? = some (.int .i64 (x : Int)) := (hout 10 (by decide)).trans rfl
              clear hin hout ho hi
              go_simp
              exact hK _ _ (Below.refl _ _) rfl
            · obtain rfl := Option.some.inj ho
              have q47 := hin 47 (by decide)
              have q48 := hin 48 (by decide)
              have e0 : v 47 = (.slice (some ⟨b, off, none⟩) n c) := HD.out ⟨7, .data⟩ (by simp) rfl
              rw [e0] at q47
              have e1 : v 48 = (.int .i64 (x : Int)) := HD.out ⟨8, .data⟩ (by simp) rfl
              rw [e1] at q48
              clear hin hout ho hi
              go_simp
              exact hK _ _ (Below.refl _ _) rfl
            · obtain rfl := Option.some.inj ho
              have q49 := hin 49 (by decide)
              have e0 : v 49 = (.pointer (some ⟨b, off + x * 3, none⟩)) := HD.out ⟨9, .data⟩ (by simp) rfl
              rw [e0] at q49
              clear hin hout ho hi
              go_simp
              exact hK _ _ (Below.refl _ _) rfl
            · obtain rfl := Option.some.inj ho
              have q50 := hin 50 (by decide)
              have e1 : v 50 = (.pointer (some ⟨b, off + x * 3 + 1, none⟩)) := HD.out ⟨10, .data⟩ (by simp) rfl
              rw [e1] at q50
              obtain ⟨k0, k1, k2⟩ := HC.out wx HF.out
              have hP := (rfl : Value.int .i64 mrk = .int .i64 mrk)
              clear hin hout ho hi
              go_simp
              exact hK _ _ (Below.refl _ _) hP
            · obtain rfl := Option.some.inj ho
              have q45 := hin 45 (by decide)
              have q51 := hin 51 (by decide)
              have e0 : v 45 = (.int .i64 ow) := HD.out ⟨5, .data⟩ (by simp) rfl
              rw [e0] at q45
              have e1 : v 51 = (.int .i64 mrk) := HD.out ⟨11, .data⟩ (by simp) rfl
              rw [e1] at q51
              clear hin hout ho hi
              go_simp
              exact hK _ _ (Below.refl _ _) rfl
            · obtain rfl := Option.some.inj ho
              clear hin hout ho hi
              go_simp
              exact hK _ _ (below_alloc _ _) ⟨_, rfl, HF.out.size, Bw.new _ _ _ _ _⟩
          · intro v wx o T' K ho hF hall hin hout hK
            obtain rfl := Option.some.inj ho
            have q52 := hin 52 (by decide)
            have h0 : v 52 = (.agg #[.int .i64 ow, .int .i64 mrk, .slice none 0 0]) := hall 12 (by decide)
            have q11 := hin 11 (by decide)
            have h1 : ∃ g, v 11 = .pointer (some ⟨g, 0, none⟩) ∧ wr.heap.size ≤ g ∧ Bw wx g 53 (.int .i64 0) (.int .i64 0) (.slice none 0 0) := hall 13 (by decide)
            clear hin hout hall ho
            obtain ⟨gx, e11, hgx, hbx⟩ := h1
            rw [h0] at q52
            rw [e11] at q11
            have HE11 := Lib.hid e11
            have HGX := Lib.hid hgx
            have HB := Lib.hid (hbx.put (.int .i64 ow) (.int .i64 mrk) (.slice none 0 0))
            have HBB := Lib.hid (below_put hF hgx 0 1 2 (.int .i64 ow) (.int .i64 mrk) (.slice none 0 0))
            obtain ⟨k0, k1, k2⟩ := hbx.out
            obtain ⟨f0, f1, f2⟩ := hbx.frz
            have hgl := hbx.lt
            clear e11 h0 hF hgx hbx
            go_simp
            exact hK _ ⟨gx, HE11.out, HGX.out, HB.out, HBB.out⟩
          · intro v wx hE
            obtain ⟨gx, e11, hgx, hbx, hbl⟩ := hE
            have HGX := Lib.hid hgx
            have HBX := Lib.hid hbx
            have HBL := Lib.hid hbl
            clear hgx hbx hbl
            simp only [over, List.setIfInBounds_toArray, List.set_cons_zero, List.set_cons_succ]
            rw [e11]
            generalize v 40 = v40
            generalize v 41 = v41
            generalize v 42 = v42
            generalize v 43 = v43
            generalize v 44 = v44
            generalize v 45 = v45
            generalize v 46 = v46
            generalize v 47 = v47
            generalize v 48 = v48
            generalize v 49 = v49
            generalize v 50 = v50
            generalize v 51 = v51
            generalize v 52 = v52
            clear e11
            obtain ⟨y0, y1, y2⟩ := HC.out wx HBL.out
            have x0 := (HX0.out.keep HBL.out).out
            have HXW : Hid (∀ wy, Below gx wx wy → Below wr.heap.size wr wy) := Lib.hid fun wy hy => HBL.out.trans (hy.mono HGX.out)
            have HXG : Hid (∀ wy, Below gx wx wy → Below g3 V wy) := Lib.hid fun wy hy => hB.out.trans ((HXW.out wy hy).mono (Nat.le_of_lt HG3r.out))
            have HLX : Hid (∀ wy, Below gx wx wy → Lch wy D m src) := Lib.hid fun wy hy => HLW.out wy (HXG.out wy hy)
            have HXL : Hid (gx < wx.heap.size) := Lib.hid HBX.out.lt
            clear HC HX0 HBL HLW
            go_wp2_with fail
            clear x0 y0 y1 y2
            generalize wx = Z2 at *
            generalize wr = w0 at *
            go_loopw [60] (fun i w2 => ∃ j : Nat, Hid (j ≤ m) ∧ i = .int .i64 (j : Int) ∧ (∃ u, Hid (Cpr nm Z2.heap.size gx ow mrk u j src w2)) ∧ Hid (Below gx Z2 w2)) (fun i _ => m - (intOf i).toNat)
            case atStart => exact ⟨0, Nat.zero_le _, rfl, ⟨_, Lib.hid ⟨HBX.out, src, OwnC.nil _ _ _, fun i hi => absurd hi (by omega)⟩⟩, Lib.hid (Below.refl _ _)⟩
            case round =>
              clear HBX
              obtain ⟨j, hj, rfl, ⟨u, hC⟩, hB2⟩ := hrel
              by_cases hltj : j < m
              · have hltj' : (j : Int) < (m : Int) := by omega
                have hm8 : m ≤ 8 := HM8.out
                have HJ1 : Hid (j ≤ 1000) := Lib.hid (by omega)
                obtain ⟨hbw, ch, hown, hlk⟩ := hC.out
                have HBW := Lib.hid hbw
                have HOWN := Lib.hid hown
                have HLK := Lib.hid hlk
                obtain ⟨b3, off3, e3, hC3, -⟩ := (HLX.out wr hB2.out).at hltj
                have HH8 := Lib.hid (HBZk.out j hltj)
                have HTWj := Lib.hid (HTWk.out j hltj)
                have HBR : Hid (∀ wy, Below gx Z2 wy → Lbr wy (src j).A (src j).n (src j).tw (src j).ct (src j).cl) := Lib.hid fun wy hy => (HLX.out wy hy).2 j hltj
                generalize hh : src j = h at hC3 HH8 HTWj HBR
                have HSJ := Lib.hid hh
                obtain ⟨-, s0, s1, s2⟩ := hC3
                have HINJ : Hid (∀ a b, a < h.n → b < h.n → nm (h.tw a).toNat = nm (h.tw b).toNat → a = b) := Lib.hid fun a b ha hb e => by
                  have h1 := HNI.out _ _ (HTWj.out.2 a ha).2 (HTWj.out.2 b hb).2 e
                  have h2 := (HTWj.out.2 a ha).1
                  have h3 := (HTWj.out.2 b hb).1
                  exact HTWj.out.1.inj ha hb (by omega)
                clear hh hbw hown hlk hC
                subst e3
                go_upto_region 15 with fail
                clear s0 s1 s2
                generalize hV1 : wr.alloc _ = V1
                have hbv1 := below_eqr hV1
                have HBC : Hid (Bw V1 wr.heap.size 65 (.int .i64 h.t) (.int .i64 h.l) (.slice h.A h.n h.c)) := by rw [← hV1]; exact Lib.hid (Bw.new _ _ _ _ _)
                have HBV1 := Lib.hid hbv1
                clear hV1 hbv1
                obtain ⟨c0, c1, c2⟩ := HBC.out.out
                go_upto_region 16 with fail
                clear c0 c1 c2
                generalize hV2 : V1.alloc _ = V2
                have hbv2 := below_eqr hV2
                have HBD : Hid (Bw V2 V1.heap.size 65 (.int .i64 h.t) (.int .i64 h.l) (.slice none 0 0)) := by rw [← hV2]; exact Lib.hid (Bw.new _ _ _ _ _)
                have HBC2 := Lib.hid (HBC.out.keep hbv2)
                have HV2 : Hid (Below wr.heap.size wr V2) := Lib.hid (HBV1.out.trans (hbv2.mono HBV1.out.size))
                have HGC : Hid (wr.heap.size < V1.heap.size) := Lib.hid HBC.out.lt
                have HGD : Hid (V1.heap.size < V2.heap.size) := Lib.hid HBD.out.lt
                have HD3 : Hid (∀ wy, Below V1.heap.size V2 wy → Below wr.heap.size wr wy) := Lib.hid fun wy hy => HV2.out.trans (hy.mono (Nat.le_of_lt HGC.out))
                have HD2 : Hid (∀ wy, Below V1.heap.size V2 wy → Below gx Z2 wy) := Lib.hid fun wy hy => hB2.out.trans ((HD3.out wy hy).mono (by have h1 := hB2.out.size; have h2 := HXL.out; omega))
                have HZW : Hid (Z2.heap.size ≤ wr.heap.size) := Lib.hid hB2.out.size
                clear hV2 hbv2 HBC HBV1 HV2
                obtain ⟨gc, hgc⟩ : ∃ gc, wr.heap.size = gc := ⟨_, rfl⟩
                have HGCE := Lib.hid hgc
                rw [hgc] at HBC2 HGC HZW ⊢
                clear hgc
                generalize V1.heap.size = gd at *
                go_wp2_with fail
                generalize wr = w1 at *
                go_loopw [69] (fun it w3 => ∃ i : Nat, Hid (i ≤ n) ∧ it = .int .i64 (i : Int) ∧ Hid (Bpr nm V2.heap.size gd h i 0 w3) ∧ Hid (Below gd V2 w3)) (fun it _ => n - (intOf it).toNat)
                case atStart => exact ⟨0, Nat.zero_le _, rfl, Lib.hid ⟨_, _, HBD.out, OwnB.nil _ _ h.t h.l none 0 (fun _ => 0) (fun _ => 0) (fun _ => 0), Sel.zero (fun q hq => (HNR.out _ (HTWj.out.2 q hq).2).1) none 0 _ _ _⟩, Lib.hid (Below.refl _ _)⟩
                case round =>
                  clear HBD
                  obtain ⟨i, hi, rfl, hP, hB3⟩ := hrel
                  by_cases hlti : i < n
                  · have hlti' : (i : Int) < (n : Int) := by omega
                    have hn40 : n ≤ 40 := HN.out
                    have hp8 : h.n ≤ 8 := HH8.out
                    obtain ⟨k0, k1, k2⟩ := (HBC2.out.block (hB3.out.block gc HGC.out)).out
                    go_wp2_with fail
                    clear k0 k1 k2
                    go_loopw [75] (fun it w4 => ∃ q : Nat, Hid (q ≤ h.n) ∧ it = .int .i64 (q : Int) ∧ Hid (Bpr nm V2.heap.size gd h i q w4) ∧ Hid (Below gd V2 w4)) (fun it _ => h.n - (intOf it).toNat)
                    case atStart => exact ⟨0, Nat.zero_le _, rfl, hP, hB3⟩
                    case round =>
                      clear hP hB3
                      obtain ⟨q, hq, rfl, hP, hB3⟩ := hrel
                      by_cases hltq : q < h.n
                      · have hltq' : (q : Int) < (h.n : Int) := by omega
                        obtain ⟨b4, off4, e4, -, hc4⟩ := (HBR.out wr (HD2.out wr hB3.out)) (by omega)
                        obtain ⟨s0, s1, s2⟩ := hc4 q hltq
                        dsimp only at s0 s1 s2
                        obtain ⟨y, hy⟩ := Int.eq_ofNat_of_zero_le (HTWj.out.2 q hltq).1
                        have HTN : Hid ((h.tw q).toNat = y) := Lib.hid (by rw [hy]; exact Int.toNat_natCast y)
                        have hyn : y < n := by have := (HTWj.out.2 q hltq).2; rw [HTN.out] at this; exact this
                        have hyn' : (y : Int) < (n : Int) := by omega
                        rw [hy] at s0
                        rw [e4]
                        clear hc4 hy
                        go_upto_region 22 with fail
                        clear s0 s1 s2
                        generalize hV3 : wr.alloc _ = V3
                        have hbv3 := below_eqr hV3
                        have HBB : Hid (Bw V3 wr.heap.size 74 (.int .i64 (y : Int)) (.int .i64 (h.ct q)) (.int .i64 (h.cl q))) := by rw [← hV3]; exact Lib.hid (Bw.new _ _ _ _ _)
                        have HBV3 : Hid (Below gd V2 V3) := Lib.hid (hB3.out.trans (hbv3.mono (by have h1 := hB3.out.size; have h2 := HGD.out; omega)))
                        have r0 := (HENV.out V3 (HXG.out V3 (HD2.out V3 HBV3.out))).2.2.1.cell hyn
                        obtain ⟨u4, h4, hbw4, how4, hsel⟩ := hP.out
                        have HBW4 := Lib.hid (hbw4.keep hbv3)
                        have HOW4 := Lib.hid (how4.keep hbv3)
                        have HSEL := Lib.hid hsel
                        have HQ := Lib.hid hltq
                        clear hV3 hbv3 hbw4 how4 hsel hP hB3
                        obtain ⟨gb, hgb⟩ : ∃ gb, wr.heap.size = gb := ⟨_, rfl⟩
                        rw [hgb] at HBB ⊢
                        clear hgb
                        obtain ⟨k0, k1, k2⟩ := HBB.out.out
                        generalize hz : nm y = z at r0
                        have HZ := Lib.hid hz
                        clear hz
                        by_cases e : z = (i : Int)
                        · have HE : Hid (nm (h.tw q).toNat = (i : Int)) := Lib.hid (by rw [HTN.out, HZ.out]; exact e)
                          subst e
                          have hbel : Below V3.heap.size V3 (V3.alloc (.cells #[.int .i64 (i : Int), .int .i64 (h.ct q), .int .i64 (h.cl q)] 74)) := below_alloc _ _
                          have hnew := Bw.new V3 74 (.int .i64 (i : Int)) (.int .i64 (h.ct q)) (.int .i64 (h.cl q))
                          obtain ⟨n0, n1, n2⟩ := hnew.out
                          have hle4 := HSEL.out.le
                          have hown4 := HOW4.out.lt
                          obtain ⟨v1, W1, hr, ho1, hg1⟩ := run_pushB (HOW4.out.keep hbel) (by omega) (Nat.le_trans HBV3.out.size hbel.size) 63 V3.heap.size 0 1 (i : Int) (h.ct q) (h.cl q) n0 n1 n2
                          obtain ⟨A6, c6, e6, -⟩ : ∃ A6 c6, v1 = .slice A6 (h4.n + 1) c6 ∧ True := by obtain ⟨A6, c6, e6, -⟩ := own_rows ho1; exact ⟨A6, c6, e6, trivial⟩
                          subst e6
                          have hgd2 := HGD.out
                          have hb5 : Bw W1 gd 65 (.int .i64 h.t) (.int .i64 h.l) u4 := (HBW4.out.keep hbel).block (hg1.block gd (HBW4.out.keep hbel).lt fun e => by have h1 := (hown4 gd e.symm).1; omega)
                          have HP2 := Lib.hid (hb5.put2 (.slice A6 (h4.n + 1) c6))
                          have HO2 := Lib.hid (ho1.stay (w' := W1.setCell ⟨gd, 2, none⟩ (.slice A6 (h4.n + 1) c6)) fun b _ hp => Below.heap_setCell _ ⟨gd, 2, none⟩ _ b (by show b ≠ gd; omega))
                          have HB5 : Hid (Below gd V2 (W1.setCell ⟨gd, 2, none⟩ (.slice A6 (h4.n + 1) c6))) := by
                            have h2 := HBV3.out.trans (hbel.mono (Nat.le_of_lt HBW4.out.lt))
                            have h3 := below_grown h2 hg1 (fun b hb => by have h5 := (hown4 b hb).1; omega) (Nat.le_of_lt HGD.out)
                            exact Lib.hid (h3.setCell (p := ⟨gd, 2, none⟩) (Nat.le_refl _) _)
                          have HS5 := Lib.hid (HSEL.out.push HQ.out HE.out HINJ.out h4.A h4.c)
                          obtain ⟨x0, x1, x2⟩ := HBW4.out.out
                          obtain ⟨f0, f1, f2⟩ := hb5.frz
                          obtain ⟨d0, d1, d2⟩ := hb5.out
                          have hl3 := hb5.lt
                          have hl4 := HBW4.out.lt
                          clear hbel hnew n0 n1 n2 hown4 ho1 hg1 hb5 hle4 hgd2
                          go_wp2_with (at_builtin; refine wpList_app rfl _ _ 63 rfl _ _ _ rfl rfl hr ?_)
                          exact ⟨⟨q + 1, Lib.hid (by omega), by rw [show ((q + 1 : Nat) : Int) = (q : Int) + 1 from by omega], Lib.hid ⟨_, _, HP2.out, HO2.out, HS5.out⟩, HB5⟩, by simp [intOf]; omega⟩
                        · have HE : Hid (nm (h.tw q).toNat ≠ (i : Int)) := Lib.hid (by rw [HTN.out, HZ.out]; exact e)
                          have HS5 := Lib.hid (HSEL.out.skip HE.out)
                          go_wp2_with fail
                          exact ⟨⟨q + 1, Lib.hid (by omega), by rw [show ((q + 1 : Nat) : Int) = (q : Int) + 1 from by omega], Lib.hid ⟨_, _, HBW4.out, HOW4.out, HS5.out⟩, HBV3⟩, by simp [intOf]; omega⟩
                      · have hqe : h.n = q := by have := hq.out; omega
                        have hltq' : ¬ (q : Int) < (h.n : Int) := by omega
                        obtain ⟨u4, h4, hbw4, how4, hsel⟩ := hP.out
                        have hs2 : Sel nm h i h.n h4 := by rw [hqe]; exact hsel
                        have HP2 : Hid (Bpr nm V2.heap.size gd h (i + 1) 0 wr) := Lib.hid ⟨u4, h4, hbw4, how4, hs2.next⟩
                        clear hqe hbw4 how4 hsel hs2 hP
                        go_wp2_with fail
                        exact ⟨⟨i + 1, Lib.hid (by omega), by rw [show ((i + 1 : Nat) : Int) = (i : Int) + 1 from by omega], HP2, hB3⟩, by simp [intOf]; omega⟩
                  · have hie : n = i := by have := hi.out; omega
                    have hlti' : ¬ (i : Int) < (n : Int) := by omega
                    subst hie
                    obtain ⟨u4, h4, hbw4, how4, hsel⟩ := hP.out
                    have HREC : Hid (ReC nm h h4) := Lib.hid (hsel.done (fun q hq => (HNR.out _ (HTWj.out.2 q hq).2).2) HINJ.out)
                    obtain ⟨A5, c5, e5, hbr⟩ := how4.br
                    subst e5
                    have hw1r : Below w1.heap.size w1 wr := HD3.out wr hB3.out
                    have hbwx := HBW.out.keep hw1r
                    have hownr := HOWN.out.keep hw1r
                    have hown0 := HOWN.out.lt
                    have hgce := HGCE.out
                    have hgc2 := HGC.out
                    have hgd2 := HGD.out
                    have hzw := HZW.out
                    have hxl := HXL.out
                    have hbel : Below wr.heap.size wr (wr.alloc (.cells #[.int .i64 h.t, .int .i64 h.l, .slice A5 h4.n c5] 65)) := below_alloc _ _
                    have hnew := Bw.new wr 65 (.int .i64 h.t) (.int .i64 h.l) (.slice A5 h4.n c5)
                    obtain ⟨n0, n1, n2⟩ := hnew.out
                    have hsub : BrP (fun b => some b ≠ u.ownBlock ∧ Z2.heap.size ≤ b) (wr.alloc (.cells #[.int .i64 h.t, .int .i64 h.l, .slice A5 h4.n c5] 65)) ⟨h.t, h.l, A5, h4.n, c5, h4.tw, h4.ct, h4.cl⟩ :=
                      BrP.imp (BrP.stay (P := fun b => V2.heap.size ≤ b) (w := wr) (Rows3P.imp hbr fun b _ hp => hp.2) hbel.size fun b hlt _ => hbel.block b hlt) fun b _ hp => ⟨fun e => by have h1 := (hown0 b e.symm).2; have h2 : V2.heap.size ≤ b := hp; omega, by have h2 : V2.heap.size ≤ b := hp; omega⟩
                    obtain ⟨v1, W1, hr, ho1, hg1⟩ := run_pushC (hownr.keep hbel) HJ1.out (Nat.le_trans (HD2.out wr hB3.out).size hbel.size) 51 wr.heap.size 0 1 ⟨h.t, h.l, A5, h4.n, c5, h4.tw, h4.ct, h4.cl⟩ n0 n1 n2 hsub
                    obtain ⟨A6, c6, e6, -⟩ := own_rows ho1.1
                    subst e6
                    have hb5 : Bw W1 gx 53 (.int .i64 ow) (.int .i64 mrk) u := (hbwx.keep hbel).block (hg1.block gx (hbwx.keep hbel).lt fun e => by have h1 := (hown0 gx e.symm).1; omega)
                    have HP2 := Lib.hid (hb5.put2 (.slice A6 (j + 1) c6))
                    have HO2 := Lib.hid (ho1.stay (w' := W1.setCell ⟨gx, 2, none⟩ (.slice A6 (j + 1) c6)) (by simp [World.setCell]) fun b _ hp => Below.heap_setCell _ ⟨gx, 2, none⟩ _ b (by show b ≠ gx; omega))
                    have HB5 : Hid (Below gx Z2 (W1.setCell ⟨gx, 2, none⟩ (.slice A6 (j + 1) c6))) := by
                      have h2 := (HD2.out wr hB3.out).trans (hbel.mono (Nat.le_of_lt hbwx.lt))
                      have h3 := below_grown h2 hg1 (fun b hb => by have h5 := (hown0 b hb).1; omega) (Nat.le_of_lt HXL.out)
                      exact Lib.hid (h3.setCell (p := ⟨gx, 2, none⟩) (Nat.le_refl _) _)
                    have HL5 : Hid (∀ q, q < j + 1 → ReC nm (src q) ((fun i => if i = j then (⟨h.t, h.l, A5, h4.n, c5, h4.tw, h4.ct, h4.cl⟩ : ChV) else ch i) q)) := Lib.hid fun q hq => by
                      dsimp only
                      by_cases e : q = j
                      · rw [if_pos e, e, HSJ.out]
                        obtain ⟨r1, r2, r3, r4, r5, r6⟩ := HREC.out
                        exact ⟨rfl, rfl, r3, r4, r5, r6⟩
                      · rw [if_neg e]; exact HLK.out q (by omega)
                    obtain ⟨x0, x1, x2⟩ := hbwx.out
                    obtain ⟨k0, k1, k2⟩ := hbw4.out
                    obtain ⟨f0, f1, f2⟩ := hb5.frz
                    obtain ⟨d0, d1, d2⟩ := hb5.out
                    have hl3 := hb5.lt
                    have hl4 := hbwx.lt
                    clear hbw4 how4 hsel hbr hw1r hbwx hownr hown0 hgce hgc2 hgd2 hzw hxl hbel hnew n0 n1 n2 hsub ho1 hg1 hb5 hP
                    go_wp2_with (at_builtin; refine wpList_app rfl _ _ 51 rfl _ _ _ rfl rfl hr ?_)
                    exact ⟨⟨j + 1, Lib.hid (by omega), by rw [show ((j + 1 : Nat) : Int) = (j : Int) + 1 from by omega], ⟨_, Lib.hid ⟨HP2.out, _, HO2.out, HL5.out⟩⟩, HB5⟩, by simp [intOf]; omega⟩
              · have hje : m = j := by have := hj.out; omega
                have hltj' : ¬ (j : Int) < (m : Int) := by omega
                subst hje
                obtain ⟨hbw, ch, hown, hlk⟩ := hC.out
                obtain ⟨A5, c5, e5, hsp⟩ := hown.stP ow mrk
                subst e5
                have hw0r : Below w0.heap.size w0 wr := HXW.out wr hB2.out
                obtain ⟨hb1, st2, hos, hl2⟩ := hO.out
                have hb1r := hb1.keep hw0r
                have hosr := hos.keep hw0r
                have hbel : Below wr.heap.size wr (wr.alloc (.cells #[.int .i64 ow, .int .i64 mrk, .slice A5 m c5] 53)) := below_alloc _ _
                have hnew := Bw.new wr 53 (.int .i64 ow) (.int .i64 mrk) (.slice A5 m c5)
                obtain ⟨n0, n1, n2⟩ := hnew.out
                have hown0 := hosr.lt
                have hown1 := hos.lt
                have hwx := HGX.out
                have hgx := HXL.out
                have hzle : V.heap.size ≤ wr.heap.size := Nat.le_trans hB.out.size hw0r.size
                obtain ⟨v1, W1, hr, ho1, hg1⟩ := run_pushS (hosr.keep hbel) HK40.out (Nat.le_trans hzle hbel.size) 22 wr.heap.size 0 1 ⟨ow, mrk, A5, m, c5, ch⟩ n0 n1 n2
                  ((hsp.stay hbel.size fun b hlt _ => hbel.block b hlt).imp fun b _ hp => ⟨fun e => by have h1 := (hown1 b e.symm).2; have h2 : Z2.heap.size ≤ b := hp; omega, by have h2 : Z2.heap.size ≤ b := hp; have h3 := hB.out.size; omega⟩)
                obtain ⟨A6, c6, e6, -⟩ := own_rows ho1.1
                subst e6
                have hg3 := hb1r.keep hbel
                have hg3' : B1 W1 g3 24 v0 := hg3.block (hg1.block g3 hg3.lt fun e => by have h1 := (hown0 g3 e.symm).1; have h2 := HSV.out; omega)
                have HP := Lib.hid (hg3'.put (.slice A6 (k + 1) c6))
                have HS2' := Lib.hid (ho1.stay (w' := W1.setCell ⟨g3, 0, none⟩ (.slice A6 (k + 1) c6)) (by simp [World.setCell]) fun b _ hp => Below.heap_setCell _ ⟨g3, 0, none⟩ _ b (by have h2 := HSV.out; show b ≠ g3; rcases hp with hp | hp <;> omega))
                have HB5 : Hid (Below g3 V (W1.setCell ⟨g3, 0, none⟩ (.slice A6 (k + 1) c6))) := by
                  have h1 := hB.out.trans (hw0r.mono (by have := hb1.lt; omega))
                  have h2 := h1.trans (hbel.mono (by have := hb1r.lt; omega))
                  have h3 := below_grown h2 hg1 (fun b hb => by have h5 := (hown0 b hb).1; have h6 := HSV.out; omega) (by have := HSV.out; omega)
                  exact Lib.hid (h3.setCell (p := ⟨g3, 0, none⟩) (Nat.le_refl _) _)
                have HL5 : Hid (∀ i, i < k + 1 → ReS nm (st (f i).toNat) ((fun i => if i = k then (⟨ow, mrk, A5, m, c5, ch⟩ : StV) else st2 i) i)) := Lib.hid fun i hi => by
                  dsimp only
                  by_cases e : i = k
                  · rw [if_pos e, e, HFX.out, HSK.out]; exact ⟨rfl, rfl, rfl, hlk⟩
                  · rw [if_neg e]; exact hl2 i (by omega)
                obtain ⟨x0, x1, x2⟩ := hbw.out
                have b0 := hb1r.out
                have f0 := hg3'.frz
                have b1 := hg3'.out
                have hl3 := hg3'.lt
                have hl4 := hb1r.lt
                clear hbw hown hlk hsp hw0r hb1 hos hl2 hb1r hosr hbel hnew n0 n1 n2 hown0 hown1 hwx hgx hzle hg3 hg3' ho1 hg1 hC hO
                go_wp2_with (at_builtin; refine wpList_app rfl _ _ 22 rfl _ _ _ rfl rfl hr ?_)
                exact ⟨⟨k + 1, Lib.hid (by omega), by rw [show ((k + 1 : Nat) : Int) = (k : Int) + 1 from by omega], ⟨_, Lib.hid ⟨HP.out, _, HS2'.out, HL5.out⟩⟩, HB5⟩, by simp [intOf]; omega⟩
        · have hke : n = k := by have := hk.out; omega
          have hlt' : ¬ (k : Int) < (n : Int) := by omega
          subst hke
          obtain ⟨hWr, -, -, -, -, hx1⟩ := HENV.out wr hB.out
          obtain ⟨hb1, st2, hos, hl2⟩ := hO.out
          obtain ⟨A6, c6, e6, hrows⟩ := own_rows hos.1
          subst e6
          have HP := Lib.hid (hx1.put (.slice A6 n c6))
          have HLP : Hid (LstP (fun b => w.heap.size ≤ b) (wr.setCell ⟨w.heap.size + 1, 0, none⟩ (.slice A6 n c6)) A6 n st2) := Lib.hid ((LstP.stay (P := fun b => V.heap.size ≤ b) (w := wr) ⟨hrows.imp fun b _ hp => hp.2, fun i hi => (hos.2 i hi).imp fun b _ hp => hp.2⟩ (w' := wr.setCell ⟨w.heap.size + 1, 0, none⟩ (.slice A6 n c6)) (by simp [World.setCell]) fun b _ hp => Below.heap_setCell _ ⟨w.heap.size + 1, 0, none⟩ _ b (by have h3 := HSV.out; have h4 := HGV.out; have h5 : V.heap.size ≤ b := hp; show b ≠ w.heap.size + 1; omega)).imp fun b _ hp => by have h3 := HSV.out; have h4 := HGV.out; have h5 : V.heap.size ≤ b := hp; show w.heap.size ≤ b; omega)
          have HB6 := Lib.hid (hWr.setCell (p := ⟨w.heap.size + 1, 0, none⟩) (Nat.le_add_right _ _) (.slice A6 n c6))
          have HLK := Lib.hid hl2
          have b0 := hb1.out
          have r0 := hx1.out
          have f0 := hx1.frz
          have hrl := hx1.lt
          clear hb1 hos hl2 hrows hx1 hO hWr HENV
          generalize w.heap.size + 1 = g2 at *
          go_wp2_with fail
          generalize wr.setCell ⟨g2, 0, none⟩ (.slice A6 n c6) = U at *
          have c0 := HP.out.out
          exact bodyPost_ret (v := .agg #[.slice A6 n c6]) (by simp [results, Tryz.results73, go_sem, c0]) rfl ⟨_, _, st2, rfl, HLP.out, HLK.out, HB6.out⟩
theorem rrenamed_any (A B : Option Addr) (n c d : Nat) (st : Nat → StV) (f : Nat → Int) (w : World) (hM : moB n st = true) (hp : ∀ i, i < n → perB f n i = true) (hA : Lst w A n st) (hB : Lin w B n f) :
    Calls Tryz.prog 73 #[.agg #[.slice A n c], .slice B n d] w (RetRr (nmF f n) n (fun i => st (f i).toNat) w) := by
  obtain ⟨a1, a2, a3⟩ := mo_small hM
  exact rrenamed_core A B n c d st f (nmF f n) w a1 hA hB (per_in hp) (fun x hx => zm_end hp hx) (fun x hx => ⟨(nm_range hp hx).1, (nm_range hp hx).2.1⟩) (fun x y hx hy e => nm_inj hp hx hy e) (fun i j hi hj => bs_inc (chB_bs (stB_ch (moB_st hM hi) hj))) a2 a3
end Go.Proofs.YtmfnpipmbpnfbaaGreatDoor
