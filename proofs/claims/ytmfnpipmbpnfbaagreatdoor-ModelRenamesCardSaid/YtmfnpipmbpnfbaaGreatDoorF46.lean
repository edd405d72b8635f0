/- The program's changed, of whose result the blocks are known. -/
import Derived.Test.YtmfnpipmbpnfbaaGreatDoorF45
import Derived.Shelf.SlSortCmp.InsertionK
import Derived.Shelf.Small.Bits

set_option maxRecDepth 100000
set_option maxHeartbeats 40000000
namespace Go.Proofs.YtmfnpipmbpnfbaaGreatDoor
open Go.RowKit
inductive Sk where
  | val (v : Value)
  | brk (lo : Nat) (h : ChV)
  | cok (lo : Nat) (h : ChV)
def Sk.ok : Sk → Value → World → Prop
  | .val v, u, _ => u = v
  | .brk lo h, u, w => BVK lo w u h
  | .cok lo h, u, w => ∃ A' c', u = .agg #[.int .i64 h.t, .int .i64 h.l, .slice A' h.n c'] ∧ BrK lo w ⟨h.t, h.l, A', h.n, c', h.tw, h.ct, h.cl⟩
theorem Sk.keep {s : Sk} {u : Value} {w w' : World} (h : s.ok u w) (hb : Below w.heap.size w w') : s.ok u w' := by
  cases s with
  | val v => exact h
  | brk lo g => obtain ⟨A, c, e, h1⟩ := h; exact ⟨A, c, e, h1.keep hb⟩
  | cok lo g => obtain ⟨A, c, e, h1⟩ := h; exact ⟨A, c, e, h1.keep hb⟩
def Skl (L : List Sk) (i : Nat) (u : Value) (w : World) : Prop := (L.getD i (.val (.int .i64 0))).ok u w
theorem Skl.keep {L : List Sk} (i : Nat) (u : Value) (w w' : World) (hb : Below w.heap.size w w') (h : Skl L i u w) : Skl L i u w' := Sk.keep h hb
def EnJ (Z : World) (C n k : Nat) (src : Nat → ChV) (w' : World) : Prop := NwI w' C n k src ∧ Below Z.heap.size Z w'
theorem nwEnd {Z wr V wx : World} {m j : Nat} {src : Nat → ChV} {h : ChV} {A' : Option Addr} {c' : Nat} (hI : NwI wr Z.heap.size m j src) (hZ : Below Z.heap.size Z wr) (hV : Below wr.heap.size wr V) (hx : Below V.heap.size V wx) (hh : src j = h) (hb : BrK V.heap.size wx ⟨h.t, h.l, A', h.n, c', h.tw, h.ct, h.cl⟩) :
    EnJ Z Z.heap.size m (j + 1) src (((wx.setCell ⟨Z.heap.size, j * 3, none⟩ (.int .i64 h.t)).setCell ⟨Z.heap.size, j * 3 + 1, none⟩ (.int .i64 h.l)).setCell ⟨Z.heap.size, j * 3 + 2, none⟩ (.slice A' h.n c')) := by
  have hw := hV.trans (hx.mono hV.size)
  exact ⟨hI.step hw ⟨h.t, h.l, A', h.n, c', h.tw, h.ct, h.cl⟩ (by rw [hh]; exact ⟨rfl, rfl, rfl, fun _ _ => ⟨rfl, rfl, rfl⟩⟩) (hb.mono hV.size), below_put (hZ.trans (hw.mono hZ.size)) (Nat.le_refl _) _ _ _ _ _ _⟩
theorem nwRound {w1 Z wr : World} {S n k m gs g5 : Nat} {tg : Nat → StV} {src : Nat → ChV} {ow mrk : Int} {a b c v5 : Value} {T : Nat} (hO : NwO w1 S n k tg) (h5 : B1 w1 g5 T v5) (h5S : g5 ≠ S) (hgs : w1.heap.size = gs) (hZ : Below w1.heap.size w1 Z) (hZs : gs < Z.heap.size) (hw : Below Z.heap.size Z wr) (_hb : Bw Z gs 53 a b c) (hI : NwI wr Z.heap.size m m src) (ht : (tg k).ow = ow) (hmk : (tg k).mrk = mrk) (hn : (tg k).n = m) (hc : ∀ j, j < m → ChLk (src j) ((tg k).ch j)) :
    NwO ((((wr.setCell ⟨gs, 2, none⟩ (.slice (some ⟨Z.heap.size, 0, none⟩) m m)).setCell ⟨S, k * 3, none⟩ (.int .i64 ow)).setCell ⟨S, k * 3 + 1, none⟩ (.int .i64 mrk)).setCell ⟨S, k * 3 + 2, none⟩ (.slice (some ⟨Z.heap.size, 0, none⟩) m m)) S n (k + 1) tg ∧
    B1 ((((wr.setCell ⟨gs, 2, none⟩ (.slice (some ⟨Z.heap.size, 0, none⟩) m m)).setCell ⟨S, k * 3, none⟩ (.int .i64 ow)).setCell ⟨S, k * 3 + 1, none⟩ (.int .i64 mrk)).setCell ⟨S, k * 3 + 2, none⟩ (.slice (some ⟨Z.heap.size, 0, none⟩) m m)) g5 T v5 ∧
    Below S w1 ((((wr.setCell ⟨gs, 2, none⟩ (.slice (some ⟨Z.heap.size, 0, none⟩) m m)).setCell ⟨S, k * 3, none⟩ (.int .i64 ow)).setCell ⟨S, k * 3 + 1, none⟩ (.int .i64 mrk)).setCell ⟨S, k * 3 + 2, none⟩ (.slice (some ⟨Z.heap.size, 0, none⟩) m m)) := by
  have hSlt := hO.lt
  have h5lt := h5.lt
  have hwr : Below w1.heap.size w1 wr := hZ.trans (hw.mono hZ.size)
  have hW : Below w1.heap.size w1 (wr.setCell ⟨gs, 2, none⟩ (.slice (some ⟨Z.heap.size, 0, none⟩) m m)) := hwr.setCell (p := ⟨gs, 2, none⟩) (Nat.le_of_eq hgs) _
  have h52 := h5.keep hW
  obtain ⟨s, g, e1, e2, e3, e4, e5, hN, hL⟩ := hI.done ow mrk
  have hN2 : NewS (wr.setCell ⟨gs, 2, none⟩ (.slice (some ⟨Z.heap.size, 0, none⟩) m m)) Z.heap.size s g := hN.stay (by simp [World.setCell]) fun b _ hp => Below.heap_setCell _ ⟨gs, 2, none⟩ _ b (by show b ≠ gs; omega)
  have hstep := hO.step hW s Z.heap.size g ⟨by rw [e1, ht], by rw [e2, hmk], by rw [e4, hn], fun j hj => (hL j (by rw [← hn]; exact hj)).trans (hc j (by rw [← hn]; exact hj))⟩ e3 (by omega) hN2
  rw [e1, e2, e3, e4, e5] at hstep
  exact ⟨hstep, h52.block (far_cells h5S), below_put (hW.mono (Nat.le_of_lt hSlt)) (Nat.le_refl _) _ _ _ _ _ _⟩
theorem chg_new (F n : Nat) (caps : Array Value) (HEN : ∀ args w, (callFunc F args).run Tryz.prog w = .ok (.enter F args) w) (tg : Nat → StV) (w : World) (hn : n ≤ 1000) (hm : ∀ i, i < n → (tg i).n ≤ 1000) (hbn : ∀ i j, i < n → j < (tg i).n → 0 < ((tg i).ch j).n ∧ ((tg i).ch j).n ≤ 1000)
    (HCL : Hid (∀ ix, ix < n → ∀ wx, Below w.heap.size w wx → Calls Tryz.prog F (#[.int .i64 (ix : Int)] ++ caps) wx (RetT (fun _ => True) (tg ix) wx))) :
    Calls Tryz.prog 61 #[.int .i64 (n : Int), .func (.func F) #[] caps] w (RetNw n tg w) := by
  have HN := Lib.hid hn
  have HM := Lib.hid hm
  have HBN := Lib.hid hbn
  clear hm hbn
  have hmk := make_states n (by omega)
  clear hn
  go_enter Tryz.func61, Tryz.ntmps61
  go_upto_region 1 with fail
  generalize hX : w.alloc _ = X
  have HX : Hid (Below w.heap.size w X) := by rw [← hX]; exact below_alloc _ _
  have HR0 : Hid (B1 X w.heap.size 24 (.slice none 0 0)) := by rw [← hX]; exact Lib.hid (B1.new _ _ _)
  have HXS : Hid (X.heap.size = w.heap.size + 1) := by rw [← hX]; exact Lib.hid (by simp)
  clear hX
  go_upto_region 2 with fail
  clear hmk
  generalize hY : World.alloc (World.alloc _ _) _ = Y
  have HOY : Hid (NwO Y X.heap.size n 0 tg) := by rw [← hY]; exact Lib.hid ((NwO.new X n tg).keep (below_alloc _ _))
  have H5Y : Hid (B1 Y (X.heap.size + 1) 24 (.slice (some ⟨X.heap.size, 0, none⟩) n n)) := by
    have := B1.new (X.alloc (.cells (madeCells #[.int .i64 0, .int .i64 0, .slice none 0 0] (n * 3)) 53)) 24 (.slice (some ⟨X.heap.size, 0, none⟩) n n)
    rw [hY, show (X.alloc (.cells (madeCells #[.int .i64 0, .int .i64 0, .slice none 0 0] (n * 3)) 53)).heap.size = X.heap.size + 1 from by simp] at this
    exact Lib.hid this
  have HBY : Hid (Below X.heap.size X Y) := by rw [← hY]; exact Lib.hid ((below_alloc _ _).trans ((below_alloc _ _).mono (by simp)))
  have HG4 : Hid (w.heap.size < X.heap.size) := Lib.hid (by have := HXS.out; omega)
  have HNE : Hid (X.heap.size + 1 ≠ X.heap.size) := Lib.hid (by omega)
  clear hY HXS
  generalize X.heap.size + 1 = g5 at *
  obtain ⟨g4, hg4⟩ : ∃ g4, w.heap.size = g4 := ⟨_, rfl⟩
  have HLE : Hid (w.heap.size ≤ g4) := Lib.hid (Nat.le_of_eq hg4)
  rw [hg4] at HR0 HG4 ⊢
  clear hg4
  have b5 := H5Y.out.out
  go_wp2_with fail
  clear b5
  go_loopw [17] (fun i wr => ∃ k : Nat, Hid (k ≤ n) ∧ i = .int .i64 (k : Int) ∧ Hid (NwO wr X.heap.size n k tg) ∧ Hid (B1 wr g5 24 (.slice (some ⟨X.heap.size, 0, none⟩) n n)) ∧ Hid (Below X.heap.size X wr)) (fun i _ => n - (intOf i).toNat)
  case atStart => exact ⟨0, Nat.zero_le _, rfl, HOY, H5Y, HBY⟩
  case round =>
    clear HOY H5Y HBY
    obtain ⟨k, hk, rfl, hO, h5, hB⟩ := hrel
    by_cases hlt : k < n
    · have hlt' : (k : Int) < (n : Int) := by omega
      have HMK := Lib.hid (HM.out k hlt)
      have HBK := Lib.hid (fun j => HBN.out k j hlt)
      go_wp2_with fail
      (with_reducible refine (HCL.out k hlt _ (HX.out.trans (hB.out.mono HX.out.size))).mono ?_)
      rintro e w1 ⟨u, rfl, ⟨s, rfl, hsl, hsp⟩, hb1⟩
      have HO1 := Lib.hid (hO.out.keep hb1)
      have H51 := Lib.hid (h5.out.keep hb1)
      have HB1 := Lib.hid (hB.out.trans (hb1.mono hB.out.size))
      have HSP := Lib.hid hsp.to
      have HSL := Lib.hid hsl
      clear hb1 hO h5 hB hsl hsp
      rw [← HSL.out.2.2.1] at HMK
      obtain ⟨ow, mrk, D, m, d, src⟩ := s
      dsimp only at HSP HMK ⊢
      go_upto_region 6 with fail
      generalize hZ : World.alloc _ _ = Z
      have HZ1 : Hid (Below w1.heap.size w1 Z) := by rw [← hZ]; exact Lib.hid (below_alloc _ _)
      have HBW : Hid (Bw Z w1.heap.size 53 (.int .i64 ow) (.int .i64 mrk) (.slice D m d)) := by rw [← hZ]; exact Lib.hid (Bw.new _ _ _ _ _)
      have HSZ := Lib.hid (HSP.out.keep HZ1.out)
      clear hZ HSP
      obtain ⟨k0, k1, k2⟩ := HBW.out.out
      have hmc := make_choices m (Nat.le_trans HMK.out (by omega))
      go_upto_region 7 with fail
      clear k0 k1 k2 hmc
      generalize hU : World.alloc _ _ = U
      have HIU : Hid (NwI U Z.heap.size m 0 src) := by rw [← hU]; exact Lib.hid (NwI.new _ _ _)
      have HZU : Hid (Below Z.heap.size Z U) := by rw [← hU]; exact Lib.hid (below_alloc _ _)
      clear hU
      obtain ⟨k0, k1, k2⟩ := (HBW.out.keep HZU.out).out
      obtain ⟨gs, hgs⟩ : ∃ gs, w1.heap.size = gs := ⟨_, rfl⟩
      have HGS := Lib.hid hgs
      rw [hgs] at HBW k0 k1 k2 ⊢
      clear hgs
      go_wp2_with fail
      clear k0 k1 k2
      go_loopw [30] (fun i w2 => ∃ j : Nat, Hid (j ≤ m) ∧ i = .int .i64 (j : Int) ∧ Hid (NwI w2 Z.heap.size m j src) ∧ Hid (Below Z.heap.size Z w2)) (fun i _ => m - (intOf i).toNat)
      case atStart => exact ⟨0, Nat.zero_le _, rfl, HIU, HZU⟩
      case round =>
        clear HIU HZU
        obtain ⟨j, hj, rfl, HI, HZW⟩ := hrel
        by_cases hltj : j < m
        · have hltj' : (j : Int) < (m : Int) := by omega
          obtain ⟨b3, off3, e3, hC3, hbr⟩ := (HSZ.out.keep HZW.out).at hltj
          have hle : 0 < (src j).n ∧ (src j).n ≤ 1000 := by
            have h1 := (HSL.out.2.2.2 j (by rw [← HSL.out.2.2.1]; exact hltj)).2.2.1
            rw [h1]
            exact HBK.out j (by rw [← HSL.out.2.2.1]; exact hltj)
          generalize hh : src j = h at hC3 hbr hle
          have HSJ := Lib.hid hh
          have HLE2 := Lib.hid hle
          have HBR := Lib.hid hbr
          obtain ⟨-, s0, s1, s2⟩ := hC3
          clear hh hbr hle
          subst e3
          go_upto_region 10 with fail
          clear s0 s1 s2
          generalize hV : World.alloc _ _ = V
          have HVW : Hid (Below wr.heap.size wr V) := by rw [← hV]; exact Lib.hid (below_alloc _ _)
          have HBC : Hid (Bw V wr.heap.size 65 (.int .i64 h.t) (.int .i64 h.l) (.slice h.A h.n h.c)) := by rw [← hV]; exact Lib.hid (Bw.new _ _ _ _ _)
          have HCO : Hid (∀ wx, Below V.heap.size V wx → Calls Tryz.prog 103 #[.slice h.A h.n h.c] wx fun e w' => ∃ u, e = .returned u ∧ Sk.ok (.brk V.heap.size h) u w' ∧ Below wx.heap.size wx w') := Lib.hid fun wx hx =>
            (clone_own h wx ((HBR.out.keep HVW.out).keep hx) HLE2.out.1 HLE2.out.2).mono fun e w' ⟨u, e1, ⟨A5, c5, e2, hb⟩, hbl⟩ => ⟨u, e1, ⟨A5, c5, e2, hb.mono hx.size⟩, hbl⟩
          clear hV HBR HLE2
          generalize wr.heap.size = gc at HBC ⊢
          have hm1 : m ≤ 1000 := HMK.out
          refine wp_region_flow_store 9 [35, 36, 37, 38, 39, 40, 41, 42, 43] (fun i => 35 + i) (Below V.heap.size V) (EnJ Z Z.heap.size m (j + 1) src) (Skl [.val (.slice (some ⟨Z.heap.size, 0, none⟩) m m), .val (.int .i64 (j : Int)), .val (.pointer (some ⟨gc, 0, none⟩)), .val (.agg #[.int .i64 h.t, .int .i64 h.l]), .val (.pointer (some ⟨gc, 2, none⟩)), .val (.slice h.A h.n h.c), .brk V.heap.size h, .cok V.heap.size h, .val (.pointer (some ⟨Z.heap.size, j * 3, none⟩))]) (by kernel_rfl) (by kernel_rfl) (by kernel_rfl) (by kernel_rfl) (by kernel_rfl) (fun i j _ _ h => Nat.add_left_cancel (show 35 + i = 35 + j from h)) (by decide) (fun wx wy (h : Below V.heap.size V wx) hb => h.trans (hb.mono h.size)) Skl.keep ?_ ?_ ?_ ?_
          · exact Below.drew (Below.refl _ _)
          · intro i v wx o T' K hi ho hF hdep hin hout hK
            have HF := Lib.hid hF
            have HD := Lib.hid hdep
            clear hF hdep
            rcases (by omega : i = 0 ∨ i = 1 ∨ i = 2 ∨ i = 3 ∨ i = 4 ∨ i = 5 ∨ i = 6 ∨ i = 7 ∨ i = 8) with rfl | rfl | rfl | rfl | rfl | rfl | rfl | rfl | rfl
            · obtain rfl := Option.some.inj ho
              have sl8 : T'[8]? = some (.slice (some ⟨Z.heap.size, 0, none⟩) m m) := (hout 8 (by decide)).trans rfl
              clear hin hout ho hi
              go_simp
              exact hK _ _ (Below.refl _ _) rfl
            · obtain rfl := Option.some.inj ho
              have sl9 : T'[9]? = some (.int .i64 (j : Int)) := (hout 9 (by decide)).trans rfl
              clear hin hout ho hi
              go_simp
              exact hK _ _ (Below.refl _ _) rfl
            · obtain rfl := Option.some.inj ho
              have sl10 : T'[10]? = some (.pointer (some ⟨gc, 0, none⟩)) := (hout 10 (by decide)).trans rfl
              clear hin hout ho hi
              go_simp
              exact hK _ _ (Below.refl _ _) rfl
            · obtain rfl := Option.some.inj ho
              have q37 := hin 37 (by decide)
              have e1 : v 37 = (.pointer (some ⟨gc, 0, none⟩)) := HD.out ⟨2, .data⟩ (by simp) rfl
              rw [e1] at q37
              obtain ⟨k0, k1, k2⟩ := (HBC.out.keep HF.out).out
              have hP := (rfl : Value.agg #[.int .i64 h.t, .int .i64 h.l] = .agg #[.int .i64 h.t, .int .i64 h.l])
              clear hin hout ho hi
              go_simp
              exact hK _ _ (Below.refl _ _) hP
            · obtain rfl := Option.some.inj ho
              have sl10 : T'[10]? = some (.pointer (some ⟨gc, 0, none⟩)) := (hout 10 (by decide)).trans rfl
              clear hin hout ho hi
              go_simp
              exact hK _ _ (Below.refl _ _) rfl
            · obtain rfl := Option.some.inj ho
              have q39 := hin 39 (by decide)
              have e1 : v 39 = (.pointer (some ⟨gc, 2, none⟩)) := HD.out ⟨4, .data⟩ (by simp) rfl
              rw [e1] at q39
              obtain ⟨k0, k1, k2⟩ := (HBC.out.keep HF.out).out
              have hP := (rfl : Value.slice h.A h.n h.c = .slice h.A h.n h.c)
              clear hin hout ho hi
              go_simp
              exact hK _ _ (Below.refl _ _) hP
            · obtain rfl := Option.some.inj ho
              have q40 := hin 40 (by decide)
              have e0 : v 40 = (.slice h.A h.n h.c) := HD.out ⟨5, .data⟩ (by simp) rfl
              rw [e0] at q40
              clear hin hout ho hi
              go_simp
              (with_reducible refine (HCO.out _ HF.out).mono ?_)
              rintro e w2 ⟨u, rfl, hu, hB⟩
              exact hK _ _ hB hu
            · obtain rfl := Option.some.inj ho
              have q38 := hin 38 (by decide)
              have q41 := hin 41 (by decide)
              have e0 : v 38 = (.agg #[.int .i64 h.t, .int .i64 h.l]) := HD.out ⟨3, .data⟩ (by simp) rfl
              rw [e0] at q38
              have e1 : Sk.ok (.brk V.heap.size h) (v 41) wx := HD.out ⟨6, .data⟩ (by simp) rfl
              obtain ⟨A5, c5, e5, hb5⟩ := e1
              rw [e5] at q41
              clear hin hout ho hi
              go_simp
              exact hK _ _ (Below.refl _ _) ⟨A5, c5, rfl, hb5⟩
            · obtain rfl := Option.some.inj ho
              have q35 := hin 35 (by decide)
              have q36 := hin 36 (by decide)
              have e0 : v 35 = (.slice (some ⟨Z.heap.size, 0, none⟩) m m) := HD.out ⟨0, .data⟩ (by simp) rfl
              rw [e0] at q35
              have e1 : v 36 = (.int .i64 (j : Int)) := HD.out ⟨1, .data⟩ (by simp) rfl
              rw [e1] at q36
              clear hin hout ho hi
              go_simp
              exact hK _ _ (Below.refl _ _) rfl
          · intro v wx o T' K ho hF hall hin hout hK
            obtain rfl := Option.some.inj ho
            have q42 := hin 42 (by decide)
            have h0 : Sk.ok (.cok V.heap.size h) (v 42) wx := hall 7 (by decide)
            have q43 := hin 43 (by decide)
            have h8 : v 43 = (.pointer (some ⟨Z.heap.size, j * 3, none⟩)) := hall 8 (by decide)
            rw [h8] at q43
            clear hin hout hall ho
            obtain ⟨A5, c5, e5, hb5⟩ := h0
            rw [e5] at q42
            have HE := Lib.hid (nwEnd HI.out HZW.out HVW.out hF HSJ.out hb5)
            obtain ⟨⟨a0, a1, a2, c0, c1, c2⟩, fr⟩ := (HI.out.keep (HVW.out.trans (hF.mono HVW.out.size))).slot hltj
            have f0 := fr (j * 3)
            have f1 := fr (j * 3 + 1)
            have f2 := fr (j * 3 + 2)
            clear e5 hb5 hF h8 fr
            go_simp
            exact hK _ HE.out
          · intro v wx hE
            have HE := Lib.hid hE
            clear hE
            simp only [over, List.setIfInBounds_toArray, List.set_cons_zero, List.set_cons_succ]
            generalize v 35 = v35
            generalize v 36 = v36
            generalize v 37 = v37
            generalize v 38 = v38
            generalize v 39 = v39
            generalize v 40 = v40
            generalize v 41 = v41
            generalize v 42 = v42
            generalize v 43 = v43
            go_wp2_with fail
            exact ⟨⟨j + 1, Lib.hid (by omega), by rw [show ((j + 1 : Nat) : Int) = (j : Int) + 1 from by omega], Lib.hid HE.out.1, Lib.hid HE.out.2⟩, by simp [intOf]; omega⟩
        · have hje : j = m := by have := hj.out; omega
          have hltj' : ¬ (j : Int) < (m : Int) := by omega
          subst hje
          have HR := Lib.hid (nwRound (ow := ow) (mrk := mrk) HO1.out H51.out HNE.out HGS.out HZ1.out (by have := HBW.out.lt; exact this) HZW.out HBW.out HI.out HSL.out.1.symm HSL.out.2.1.symm HSL.out.2.2.1.symm (fun i hi => HSL.out.2.2.2 i (by rw [← HSL.out.2.2.1]; exact hi)))
          have hbw := HBW.out.keep HZW.out
          obtain ⟨k0, k1, k2⟩ := hbw.out
          obtain ⟨f0, f1, f2⟩ := hbw.frz
          have hgl := hbw.lt
          have hw1r : Below w1.heap.size w1 wr := HZ1.out.trans (HZW.out.mono HZ1.out.size)
          have b5 := (H51.out.keep hw1r).out
          have hOr := HO1.out.keep hw1r
          obtain ⟨⟨a0, a1, a2, c0, c1, c2⟩, fr⟩ := hOr.slot hlt
          have e0 := fr (k * 3)
          have e1 := fr (k * 3 + 1)
          have e2 := fr (k * 3 + 2)
          have hSg : X.heap.size ≠ gs := by have h1 := HO1.out.lt; have h2 := HGS.out; omega
          have h5g : g5 ≠ gs := by have h1 := H51.out.lt; have h2 := HGS.out; omega
          clear fr hbw hgl hw1r hOr
          have hn1 : n ≤ 1000 := HN.out
          go_wp2_with fail
          exact ⟨⟨k + 1, Lib.hid (by omega), by rw [show ((k + 1 : Nat) : Int) = (k : Int) + 1 from by omega], Lib.hid HR.out.1, Lib.hid HR.out.2.1, Lib.hid (HB1.out.trans HR.out.2.2)⟩, by simp [intOf]; omega⟩
    · have hke : k = n := by have := hk.out; omega
      have hlt' : ¬ (k : Int) < (n : Int) := by omega
      subst hke
      have b5 := h5.out.out
      have hr := HR0.out.keep hB.out
      have r0 := hr.out
      have f0 := hr.frz
      have hrl := hr.lt
      have HP := Lib.hid (hr.put (.slice (some ⟨X.heap.size, 0, none⟩) k k))
      have HO2 := Lib.hid (hO.out.stay (w' := wr.setCell ⟨g4, 0, none⟩ (.slice (some ⟨X.heap.size, 0, none⟩) k k)) (by simp [World.setCell]) (fun b _ hb => Below.heap_setCell _ ⟨g4, 0, none⟩ _ b (by have h := HG4.out; show b ≠ g4; omega)))
      have HB2 := Lib.hid ((HX.out.trans (hB.out.mono HX.out.size)).setCell (p := ⟨g4, 0, none⟩) HLE.out (.slice (some ⟨X.heap.size, 0, none⟩) k k))
      clear hr
      go_wp2_with fail
      generalize wr.setCell ⟨g4, 0, none⟩ (.slice (some ⟨X.heap.size, 0, none⟩) k k) = V at *
      have c0 := HP.out.out
      obtain ⟨st, C, g, hL, hl⟩ := HO2.out.done
      exact bodyPost_ret (v := .agg #[.slice (some ⟨X.heap.size, 0, none⟩) k k]) (by simp [results, Tryz.results61, go_sem, c0]) rfl ⟨_, _, st, C, g, rfl, HX.out.size, hL, hl, HB2.out⟩
end Go.Proofs.YtmfnpipmbpnfbaaGreatDoor
namespace Go.Proofs
open Go.Shelf
def Tryz.srtI_ren : Go.Shelf.Ren := ⟨fun | 20 => 161 | n => n, fun | 0 => 0 | 3 => 3 | 4 => 4 | 22 => 63 | 24 => 74 | 25 => 144 | n => n, fun | n => n⟩
theorem Tryz.srtI : Go.Proofs.SlLaysF0.n20 Tryz.prog Tryz.srtI_ren := {
  mixed := by kernel_rfl
  f20 := ⟨"slices.insertionSortCmpFunc[dicebox/api.Branch]", by kernel_rfl, Tryz.func161.trans (congrArg some (by kernel_rfl))⟩
  t0 := Tryz.underlying0
  a0 := Tryz.isAgg0
  z0 := Tryz.sizeOf0
  v0 := Tryz.zeroValue0
  t3 := Tryz.underlying3
  a3 := Tryz.isAgg3
  z3 := Tryz.sizeOf3
  v3 := Tryz.zeroValue3
  t4 := Tryz.underlying4
  a4 := Tryz.isAgg4
  z4 := Tryz.sizeOf4
  v4 := Tryz.zeroValue4
  t22 := Tryz.underlying63
  a22 := Tryz.isAgg63
  z22 := Tryz.sizeOf63
  v22 := Tryz.zeroValue63
  t25 := Tryz.underlying144
  a25 := Tryz.isAgg144
  z25 := Tryz.sizeOf144
  v25 := Tryz.zeroValue144 }
end Go.Proofs
namespace Go.Proofs.YtmfnpipmbpnfbaaGreatDoor
open Go.RowKit
def encB (x : Int × Int × Int) : List Value := [.int .i64 x.1, .int .i64 x.2.1, .int .i64 x.2.2]
def cfB (x y : Int × Int × Int) : Int := if x.1 < y.1 then -1 else if y.1 < x.1 then 1 else 0
theorem ltB (x y : Int × Int × Int) : ltOf cfB x y = decide (x.1 < y.1) := by
  unfold ltOf cfB
  by_cases h : x.1 < y.1
  · rw [if_pos h, decide_eq_true h]; rfl
  · rw [if_neg h, decide_eq_false h]
    split <;> rfl
theorem swoB : Go.Sort.SWO (ltOf cfB) where
  irrefl x := by rw [ltB]; exact decide_eq_false (by omega)
  trans x y z h1 h2 := by
    rw [ltB, decide_eq_true_eq] at h1 h2 ⊢
    omega
  ntrans x y z h1 h2 := by
    rw [ltB, decide_eq_false_iff_not] at h1 h2 ⊢
    omega
def arrB (h : ChV) : Array (Int × Int × Int) := (Array.range h.n).map fun j => (h.tw j, h.ct j, h.cl j)
theorem arrB_size (h : ChV) : (arrB h).size = h.n := by simp [arrB]
theorem arrB_at (h : ChV) {j : Nat} (hj : j < h.n) : (arrB h)[j]! = (h.tw j, h.ct j, h.cl j) := by
  rw [getElem!_pos (arrB h) j (by rw [arrB_size]; exact hj)]
  simp [arrB]
theorem bk_holds {w : World} {g : Nat} {h : ChV} (H : BkB w g h) : Go.Sort.HoldsK encB 3 w g 0 (arrB h) := by
  intro t ht
  rw [Go.Sort.size_flatK, arrB_size] at ht
  have hj : t / 3 < h.n := by omega
  rw [Go.Sort.get_flatK _ _ _ _ (by rw [arrB_size]; exact ht), arrB_at h hj, Nat.zero_add]
  obtain ⟨⟨c0, c1, c2⟩, f0, f1, f2⟩ := H.2 (t / 3) hj
  rcases (by omega : t % 3 = 0 ∨ t % 3 = 1 ∨ t % 3 = 2) with e | e | e
  · have et : t / 3 * 3 = t := by omega
    rw [et] at c0 f0
    rw [e]
    exact ⟨c0, f0⟩
  · have et : t / 3 * 3 + 1 = t := by omega
    rw [et] at c1 f1
    rw [e]
    exact ⟨c1, f1⟩
  · have et : t / 3 * 3 + 2 = t := by omega
    rw [et] at c2 f2
    rw [e]
    exact ⟨c2, f2⟩
def ofArr (h : ChV) (d : Array (Int × Int × Int)) : ChV := ⟨h.t, h.l, h.A, h.n, h.c, fun j => d[j]!.1, fun j => d[j]!.2.1, fun j => d[j]!.2.2⟩
theorem holds_bk {w : World} {g : Nat} {h : ChV} {d : Array (Int × Int × Int)} (hlt : g < w.heap.size) (hs : d.size = h.n) (H : Go.Sort.HoldsK encB 3 w g 0 d) : BkB w g (ofArr h d) :=
  ⟨hlt, fun j hj => by
    have hj' : j < d.size := by rw [hs]; exact hj
    have c0 := H.cell hj' (show 0 < 3 by omega)
    have c1 := H.cell hj' (show 1 < 3 by omega)
    have c2 := H.cell hj' (show 2 < 3 by omega)
    rw [Nat.zero_add] at c0 c1 c2
    exact ⟨⟨c0.1, c1.1, c2.1⟩, c0.2, c1.2, c2.2⟩⟩
theorem sort_grown {w : World} {g n : Nat} {d : Array (Int × Int × Int)} {os : Array Obj} : w.grownBy (sortWorldK encB 3 w g 0 n d os) (some g) where
  os := rfl
  tape := rfl
  output := rfl
  size := size_sortWorldK_c encB 3 w g 0 n d os
  block k hk hne := by
    have hgk : ¬ g = k := fun e => hne (by rw [e])
    have h1 : (Go.Sort.putRowK encB 3 (Go.Sort.ahead w n) g 0 d).heap.size = w.heap.size := by simp [Go.Sort.putRowK, Go.Sort.putRow, Go.Sort.mapBlock, Go.Sort.ahead]
    unfold sortWorldK
    rw [Go.Sort.heap_grow_old _ _ (by rw [h1]; exact hk)]
    simp [Go.Sort.putRowK, Go.Sort.putRow, Go.Sort.mapBlock, Go.Sort.ahead, Array.getElem?_modify, hgk]
theorem ext0 (a : Array (Int × Int × Int)) (n : Nat) (h : a.size = n) : a.extract 0 n = a := by subst h; exact Array.extract_size
theorem sorted_rec {nm : Nat → Int} {h : ChV} {d' : Array (Int × Int × Int)} (hp : Go.Sort.PermIn 0 h.n (arrB ⟨h.t, h.l, h.A, h.n, h.c, fun j => nm (h.tw j).toNat, h.ct, h.cl⟩) d') (hs : Go.Sort.SortedIn (ltOf cfB) 0 h.n d')
    (hinj : ∀ i j, i < h.n → j < h.n → nm (h.tw i).toNat = nm (h.tw j).toNat → i = j) : ReC nm h (ofArr h d') ∧ d'.size = h.n := by
  obtain ⟨p1, -, p3⟩ := hp
  have hsz : (arrB ⟨h.t, h.l, h.A, h.n, h.c, fun j => nm (h.tw j).toNat, h.ct, h.cl⟩).size = h.n := arrB_size _
  have hd : d'.size = h.n := p1.trans hsz
  have e1 : (arrB ⟨h.t, h.l, h.A, h.n, h.c, fun j => nm (h.tw j).toNat, h.ct, h.cl⟩).extract 0 h.n = arrB ⟨h.t, h.l, h.A, h.n, h.c, fun j => nm (h.tw j).toNat, h.ct, h.cl⟩ := ext0 _ _ hsz
  have e2 : d'.extract 0 h.n = d' := ext0 _ _ hd
  rw [e1, e2] at p3
  have hat : ∀ j, j < h.n → (arrB ⟨h.t, h.l, h.A, h.n, h.c, fun j => nm (h.tw j).toNat, h.ct, h.cl⟩)[j]! = (nm (h.tw j).toNat, h.ct j, h.cl j) := fun j hj => arrB_at ⟨h.t, h.l, h.A, h.n, h.c, fun j => nm (h.tw j).toNat, h.ct, h.cl⟩ hj
  generalize arrB ⟨h.t, h.l, h.A, h.n, h.c, fun j => nm (h.tw j).toNat, h.ct, h.cl⟩ = d at p3 hsz hat
  have getL : ∀ (a : Array (Int × Int × Int)) (i : Nat) (hi : i < a.size), a.toList[i]'(by simpa using hi) = a[i]! := fun a i hi => by
    rw [getElem!_pos a i hi]; simp
  have nd : (d.toList.map (·.1)).Nodup := by
    refine List.pairwise_iff_getElem.2 fun i j hi hj hij => ?_
    simp only [List.length_map, Array.length_toList] at hi hj
    rw [List.getElem_map, List.getElem_map, getL d i hi, getL d j hj, hat i (by omega), hat j (by omega)]
    intro e
    have := hinj i j (by omega) (by omega) e
    omega
  have nd' : (d'.toList.map (·.1)).Nodup := ((p3.map (·.1)).nodup_iff).2 nd
  have hne : ∀ i j, i < j → j < h.n → (d'[i]!).1 ≠ (d'[j]!).1 := fun i j hij hj => by
    have := (List.pairwise_iff_getElem.1 nd') i j (by simp; omega) (by simp; omega) hij
    rw [List.getElem_map, List.getElem_map, getL d' i (by omega), getL d' j (by omega)] at this
    exact this
  refine ⟨⟨rfl, rfl, rfl, fun i j hij hj => ?_, fun j hj => ?_, fun i hi => ?_⟩, hd⟩
  · have h1 := hs i j (Nat.zero_le _) hij hj
    rw [ltB, decide_eq_false_iff_not] at h1
    have h2 := hne i j hij hj
    show (d'[i]!).1 < (d'[j]!).1
    omega
  · have hm : d[j]! ∈ d'.toList := p3.mem_iff.2 (by rw [← getL d j (by omega)]; exact List.getElem_mem _)
    obtain ⟨i, hi, e⟩ := List.mem_iff_getElem.1 hm
    have hi' : i < d'.size := by simpa using hi
    rw [getL d' i hi', hat j hj] at e
    refine ⟨i, by show i < h.n; omega, ?_, ?_, ?_⟩
    · show (d'[i]!).1 = _; rw [e]
    · show (d'[i]!).2.1 = _; rw [e]
    · show (d'[i]!).2.2 = _; rw [e]
  · have hi' : i < d'.size := by have : i < h.n := hi; omega
    have hm : d'[i]! ∈ d.toList := p3.mem_iff.1 (by rw [← getL d' i hi']; exact List.getElem_mem _)
    obtain ⟨j, hj, e⟩ := List.mem_iff_getElem.1 hm
    have hj' : j < d.size := by simpa using hj
    rw [getL d j hj', hat j (by omega)] at e
    refine ⟨j, by omega, ?_, ?_, ?_⟩
    · show (d'[i]!).1 = _; rw [← e]
    · show (d'[i]!).2.1 = _; rw [← e]
    · show (d'[i]!).2.2 = _; rw [← e]
end Go.Proofs.YtmfnpipmbpnfbaaGreatDoor
