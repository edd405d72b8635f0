/- The reference's Copy: a model that is built by append, in new memory. -/
import Derived.Test.YtokbejkkpekpnaaGreatDoorF44

set_option maxRecDepth 100000
set_option maxHeartbeats 40000000
namespace Go.Proofs.YtokbejkkpekpnaaGreatDoor
open Go.RowKit
theorem ev_tmp {T : Array Value} {df : List Deferred} {i : Nat} {v : Value} (h : T[i]? = some v) : (⟨T, df⟩ : Act).eval (.tmp i) = v := by simp [Act.eval, h]
theorem step_app {ops : Array Oper} {o : Oper} {a : Act} {K : Act → World → Prop} {Q : Exit → Act → World → Prop} {W W' : World} {E : Prop} (hgd : o.guard = none) (s x : Operand) (t : TypeId)
    (ho : o.op = .call { callee := .builtin .append, args := #[s, x], argTypes := #[t, t] }) (v1 v2 r : Value) (hs : a.eval s = v1) (hx : a.eval x = v2)
    (hr : (Builtin.append_ #[t, t] o.type #[v1, v2]).run Tryz.prog W = .ok r W') (H : K (a.put o.dst r) W') :
    if Region.wanted o (yielded ops a.tmps) = true then Oper.wp Tryz.prog o a W K Q else E := by
  have hw : Region.wanted o (yielded ops a.tmps) = true := by simp [Region.wanted, hgd]
  rw [if_pos hw]
  unfold Oper.wp execOp
  simp only [ho, resolve, invoke, builtin, Sem.run_bind, Sem.run_pure, Result.andThen_ok, List.map_toArray, List.map_cons, List.map_nil, hs, hx, hr]
  exact H
theorem wpList_app {ops : Array Oper} {rest : List Oper} {o : Oper} {a : Act} {Q : Exit → Act → World → Prop} {W W' : World} (hgd : o.guard = none) (s x : Operand) (t : TypeId)
    (ho : o.op = .call { callee := .builtin .append, args := #[s, x], argTypes := #[t, t] }) (v1 v2 r : Value) (hs : a.eval s = v1) (hx : a.eval x = v2)
    (hr : (Builtin.append_ #[t, t] o.type #[v1, v2]).run Tryz.prog W = .ok r W') (H : wpList Tryz.prog ops Q rest (a.put o.dst r) W') : wpList Tryz.prog ops Q (o :: rest) a W :=
  wpList_plain hgd fun K hK => by
    unfold Oper.wp execOp
    simp only [ho, resolve, invoke, builtin, Sem.run_bind, Sem.run_pure, Result.andThen_ok, List.map_toArray, List.map_cons, List.map_nil, hs, hx, hr]
    exact hK _ _ H
def Cps (base gx : Nat) (ow mrk : Int) (u : Value) (j : Nat) (src : Nat → ChV) (w : World) : Prop := Bw w gx 53 (.int .i64 ow) (.int .i64 mrk) u ∧ ∃ ch, OwnC base w u j ch ∧ ∀ i, i < j → ChLk (ch i) (src i)
def CpsC (Z V : World) (gx gc : Nat) (ow mrk : Int) (u : Value) (h : ChV) (wx : World) : Prop := Below gx Z wx ∧ Bw wx gx 53 (.int .i64 ow) (.int .i64 mrk) u ∧ Bw wx gc 65 (.int .i64 h.t) (.int .i64 h.l) (.slice h.A h.n h.c) ∧ V.heap.size ≤ wx.heap.size
theorem below_grown {base : Nat} {Z wx wy : World} {g : Option Nat} (h : Below base Z wx) (hg : wx.grownBy wy g) (hb : ∀ b, g = some b → base ≤ b) (hZ : base ≤ Z.heap.size) : Below base Z wy :=
  h.trans ⟨hg.os, hg.tape, hg.output, hg.size, fun k hk => hg.block k (Nat.lt_of_lt_of_le hk (Nat.le_trans hZ h.size)) fun e => by have := hb k e.symm; omega⟩
theorem CpsC.keep {Z V : World} {gx gc : Nat} {ow mrk : Int} {u : Value} {h : ChV} {wx wy : World} (H : CpsC Z V gx gc ow mrk u h wx) (hZ : gx ≤ Z.heap.size) (hb : Below wx.heap.size wx wy) : CpsC Z V gx gc ow mrk u h wy :=
  ⟨H.1.trans (hb.mono (Nat.le_trans hZ H.1.size)), H.2.1.keep hb, H.2.2.1.keep hb, Nat.le_trans H.2.2.2 hb.size⟩
theorem CpsC.turn {Z V : World} {base gx gc : Nat} {ow mrk : Int} {u : Value} {h : ChV} {wx wy : World} (H : CpsC Z V gx gc ow mrk u h wx) (hZ : gx ≤ Z.heap.size) (hg : wx.grownBy wy u.ownBlock) (hu : ∀ b, u.ownBlock = some b → base ≤ b ∧ b < gc) (hx : gx < base) : CpsC Z V gx gc ow mrk u h wy :=
  ⟨below_grown H.1 hg (fun b hb => Nat.le_trans (Nat.le_of_lt hx) (hu b hb).1) hZ, H.2.1.block (hg.block gx H.2.1.lt fun e => by have := (hu gx e.symm).1; omega), H.2.2.1.block (hg.block gc H.2.2.1.lt fun e => by have := (hu gc e.symm).2; omega), Nat.le_trans H.2.2.2 hg.size⟩
def CpsF2 (base j : Nat) (src : Nat → ChV) (x : Value) (wx : World) : Prop := ∃ ch, OwnC base wx x (j + 1) ch ∧ ∀ i, i < j + 1 → ChLk (ch i) (src i)
def CpsE (Z : World) (base gx : Nat) (ow mrk : Int) (j : Nat) (src : Nat → ChV) (w : World) : Prop := ∃ u, Cps base gx ow mrk u (j + 1) src w ∧ Below gx Z w
theorem cpsEnd {Z wx : World} {base gx j : Nat} {ow mrk : Int} {src : Nat → ChV} {u x : Value} (hB : Below gx Z wx) (hbx : gx < base) (hw : Bw wx gx 53 (.int .i64 ow) (.int .i64 mrk) u) (h2 : CpsF2 base j src x wx) : CpsE Z base gx ow mrk j src (wx.setCell ⟨gx, 2, none⟩ x) := by
  obtain ⟨ch, ho, hl⟩ := h2
  exact ⟨x, ⟨hw.put2 x, ch, ho.stay (by simp [World.setCell]) fun b _ hb => Below.heap_setCell _ ⟨gx, 2, none⟩ _ b (by show b ≠ gx; omega), hl⟩, hB.setCell (p := ⟨gx, 2, none⟩) (Nat.le_refl _) _⟩
theorem rcopy_any (A : Option Addr) (n c : Nat) (st : Nat → StV) (w : World) (hn : n ≤ 45) (hm : ∀ i, i < n → (st i).n ≤ 10) (hbn : ∀ i j, i < n → j < (st i).n → ((st i).ch j).n ≤ 10) (hA : Lst w A n st) :
    Calls Tryz.prog 25 #[.agg #[.slice A n c]] w (RetCo n st w) := by
  have HN := Lib.hid hn
  have HM := Lib.hid hm
  have HBN := Lib.hid hbn
  have HA := Lib.hid hA
  clear hn hm hbn hA
  go_enter Tryz.func25, Tryz.ntmps25
  go_upto_region 2 with fail
  generalize hZ : World.alloc _ _ = Z
  obtain ⟨hZB, hb1, hb2, hb3⟩ := alloc_3 hZ
  have hZs : Z.heap.size = w.heap.size + 2 + 1 := by rw [← hZ]; simp
  have HZS := Lib.hid hZs
  have HZB := Lib.hid hZB
  have HB2 := Lib.hid hb2
  have HB3 := Lib.hid hb3
  have x0 := hb1.out
  clear hZ hZs hZB hb1 hb2 hb3
  go_wp2_with fail
  clear x0
  obtain ⟨g3, hg3⟩ : ∃ g3, w.heap.size + 2 = g3 := ⟨_, rfl⟩
  have HG3 := Lib.hid hg3
  rw [hg3] at HZS HB3 ⊢
  clear hg3
  go_loopw [13] (fun i wr => ∃ k : Nat, Hid (k ≤ n) ∧ i = .int .i64 (k : Int) ∧ (∃ v, Hid (B1 wr g3 24 v ∧ ∃ st2, OwnS (fun b => Z.heap.size ≤ b) Z.heap.size wr v k st2 ∧ ∀ i, i < k → StL (st2 i) (st i) ∧ (st2 i).n ≤ (st2 i).c)) ∧ Hid (Below g3 Z wr)) (fun i _ => n - (intOf i).toNat)
  case atStart => exact ⟨0, Nat.zero_le _, rfl, ⟨_, Lib.hid ⟨HB3.out, st, OwnS.nil _ _ _ _, fun i hi => absurd hi (by omega)⟩⟩, Lib.hid (Below.refl _ _)⟩
  case round =>
    obtain ⟨k, hk, rfl, ⟨v0, hO⟩, hB⟩ := hrel
    have HWB : Hid (Below w.heap.size w wr) := Lib.hid (HZB.out.trans (hB.out.mono (by have := HG3.out; omega)))
    by_cases hlt : k < n
    · have hlt' : (k : Int) < (n : Int) := by omega
      have hn1 : n ≤ 45 := HN.out
      have HMK := Lib.hid (HM.out k hlt)
      have HBK := Lib.hid (fun j => HBN.out k j hlt)
      obtain ⟨b, off, hAe, hS3, hL⟩ := (HA.out.keep HWB.out).at hlt
      generalize hsk : st k = sk at hS3 hL HMK HBK
      have HSK := Lib.hid hsk
      obtain ⟨ow, mrk, D, m, d, src⟩ := sk
      dsimp only at hS3 hL HMK HBK
      have HL := Lib.hid hL
      obtain ⟨-, s0, s1, s2⟩ := hS3
      subst hAe
      clear hL hsk
      go_upto_region 5 with fail
      clear s0 s1 s2
      generalize hZ1 : wr.alloc _ = Z1
      have HR1 : Hid (Below wr.heap.size wr Z1) := by rw [← hZ1]; exact Lib.hid (below_alloc _ _)
      have HBS : Hid (Bw Z1 wr.heap.size 53 (.int .i64 ow) (.int .i64 mrk) (.slice D m d)) := by rw [← hZ1]; exact Lib.hid (Bw.new _ _ _ _ _)
      clear hZ1
      obtain ⟨x0, x1, x2⟩ := HBS.out.out
      go_upto_region 6 with fail
      clear x0 x1 x2
      generalize hZ2 : Z1.alloc _ = Z2
      have hR2 : Below Z1.heap.size Z1 Z2 := by rw [← hZ2]; exact below_alloc _ _
      have HR2 := Lib.hid hR2
      have HBX : Hid (Bw Z2 Z1.heap.size 53 (.int .i64 ow) (.int .i64 mrk) (.slice none 0 0)) := by rw [← hZ2]; exact Lib.hid (Bw.new _ _ _ _ _)
      have HS2 : Hid (Z2.heap.size = Z1.heap.size + 1) := by rw [← hZ2]; exact Lib.hid (by simp)
      have HW2 : Hid (Below wr.heap.size wr Z2) := Lib.hid (HR1.out.trans (hR2.mono HR1.out.size))
      have HL2 : Hid (Lch Z2 D m src) := Lib.hid (HL.out.keep HW2.out)
      obtain ⟨x0, x1, x2⟩ := (HBS.out.keep hR2).out
      clear hZ2 hR2 HL HBS
      go_wp2_with fail
      clear x0 x1 x2
      have HLW0 : Hid (∀ wx, Below w.heap.size w wx → Lch wx D m src) := Lib.hid fun wx hx => by
        have := (HA.out.keep hx).2 k hlt
        rw [HSK.out] at this
        exact this
      generalize hgx : Z1.heap.size = gx at *
      have HGX : Hid (gx < Z2.heap.size) := Lib.hid HBX.out.lt
      have HWX : Hid (wr.heap.size ≤ gx) := Lib.hid (by rw [← hgx]; exact HR1.out.size)
      have HLW : Hid (∀ wx, Below gx Z2 wx → Lch wx D m src) := Lib.hid fun wx hx => HLW0.out wx (HWB.out.trans ((HW2.out.mono HWB.out.size).trans (hx.mono (Nat.le_trans HWB.out.size HWX.out))))
      clear hgx HLW0 HL2
      generalize wr = w0 at *
      go_loopw [25] (fun i w2 => ∃ j : Nat, Hid (j ≤ m) ∧ i = .int .i64 (j : Int) ∧ (∃ u, Hid (Cps Z2.heap.size gx ow mrk u j src w2)) ∧ Hid (Below gx Z2 w2)) (fun i _ => m - (intOf i).toNat)
      case atStart => exact ⟨0, Nat.zero_le _, rfl, ⟨_, Lib.hid ⟨HBX.out, src, OwnC.nil _ _ _, fun i hi => absurd hi (by omega)⟩⟩, Lib.hid (Below.refl _ _)⟩
      case round =>
        obtain ⟨j, hj, rfl, ⟨u, hC⟩, hB2⟩ := hrel
        by_cases hltj : j < m
        · have hltj' : (j : Int) < (m : Int) := by omega
          have hm1 : m ≤ 10 := HMK.out
          have HJ1 : Hid (j ≤ 1000) := Lib.hid (by omega)
          obtain ⟨hbw, ch, hown, hlk⟩ := hC.out
          have HLK := Lib.hid hlk
          obtain ⟨b3, off3, e3, hC3, -⟩ := (HLW.out wr hB2.out).at hltj
          have hle : (src j).n ≤ 1000 := by
            have := HBK.out j hltj
            omega
          have HBR : Hid (∀ wx, Below gx Z2 wx → Lbr wx (src j).A (src j).n (src j).tw (src j).ct (src j).cl) := Lib.hid fun wx hx => (HLW.out wx hx).2 j hltj
          generalize hh : src j = h at hC3 hle HBR
          have HSJ := Lib.hid hh
          have HLE2 := Lib.hid hle
          have HBW := Lib.hid hbw
          have HOWN := Lib.hid hown
          obtain ⟨-, s0, s1, s2⟩ := hC3
          clear hh hle hbw hown hlk hC
          subst e3
          go_upto_region 9 with fail
          clear s0 s1 s2
          generalize hV : wr.alloc _ = V
          have hbv : Below wr.heap.size wr V := by rw [← hV]; exact below_alloc _ _
          have HBC : Hid (Bw V wr.heap.size 65 (.int .i64 h.t) (.int .i64 h.l) (.slice h.A h.n h.c)) := by rw [← hV]; exact Lib.hid (Bw.new _ _ _ _ _)
          have HOV : Hid (OwnC Z2.heap.size V u j ch) := Lib.hid (HOWN.out.keep hbv)
          have HCV : Hid (CpsC Z2 V gx wr.heap.size ow mrk u h V) := Lib.hid ⟨hB2.out.trans (hbv.mono (Nat.le_trans (Nat.le_of_lt HGX.out) hB2.out.size)), HBW.out.keep hbv, HBC.out, Nat.le_refl _⟩
          have HOB : Hid (∀ b, u.ownBlock = some b → Z2.heap.size ≤ b ∧ b < wr.heap.size) := Lib.hid HOWN.out.lt
          have HGCV : Hid (wr.heap.size < V.heap.size) := Lib.hid HBC.out.lt
          have HZV : Hid (Z2.heap.size ≤ V.heap.size) := Lib.hid (Nat.le_trans hB2.out.size hbv.size)
          clear hV hbv HOWN HBW
          generalize wr.heap.size = gc at *
          refine wp_region_flow_turn 12 10 (by decide) [29, 30, 31, 32, 33, 34, 35, 36, 37, 38, 39, 40] (fun i => 29 + i) (CpsC Z2 V gx gc ow mrk u h) (fun wx => OwnC Z2.heap.size wx u j ch) (CpsE Z2 Z2.heap.size gx ow mrk j src) (CpsF2 Z2.heap.size j src) (fun wx wy => wx.grownBy wy u.ownBlock) (Sml [.val (.pointer (some ⟨gx, 2, none⟩)), .val u, .val (.pointer (some ⟨gc, 0, none⟩)), .val (.agg #[.int .i64 h.t, .int .i64 h.l]), .eb, .val (.pointer (some ⟨gc, 2, none⟩)), .val (.slice h.A h.n h.c), .br V.heap.size h, .co V.heap.size h, .el V.heap.size h, .val u, .val (.pointer (some ⟨gx, 2, none⟩))]) (by kernel_rfl) (by kernel_rfl) (by kernel_rfl) (by kernel_rfl) (by kernel_rfl) (fun i j _ _ h => Nat.add_left_cancel (show 29 + i = 29 + j from h)) (by decide) (fun wx wy h hb => h.keep (Nat.le_of_lt HGX.out) hb) (fun wx wy h hb => h.keep hb) (fun x wx wy ⟨ch2, h2, h3⟩ hb => ⟨ch2, h2.keep hb, h3⟩) Sml.keep (fun wx wy h hg => h.turn (Nat.le_of_lt HGX.out) hg HOB.out HGX.out) ?_ ?_ ?_ ?_ ?_ ?_ ?_
          · intro i x wx wy hc hg h2
            exact Sml.turn (lo := V.heap.size) (by simp [Sm.free]) i x h2 hg.size fun b hlt hp => hg.block b hlt fun e => by have h5 := (HOB.out b e.symm).2; have h6 := HGCV.out; omega
          · exact ⟨HCV.out.1.drew, HCV.out.2.1, HCV.out.2.2.1, HCV.out.2.2.2⟩
          · exact HOV.out
          · intro i v wx o T' K hi hip ho hF hdep hin hout hK
            have HF := Lib.hid hF
            have HD := Lib.hid hdep
            clear hF hdep
            rcases (by omega : i = 0 ∨ i = 1 ∨ i = 2 ∨ i = 3 ∨ i = 4 ∨ i = 5 ∨ i = 6 ∨ i = 7 ∨ i = 8 ∨ i = 9 ∨ i = 11) with rfl | rfl | rfl | rfl | rfl | rfl | rfl | rfl | rfl | rfl | rfl
            · obtain rfl := Option.some.inj ho
              have sl6 : T'[6]? = some (.pointer (some ⟨gx, 0, none⟩)) := (hout 6 (by decide)).trans rfl
              clear hin hout ho hi hip
              go_simp
              exact hK _ _ (Below.refl _ _) rfl
            · obtain rfl := Option.some.inj ho
              have q29 := hin 29 (by decide)
              have e1 : v 29 = (.pointer (some ⟨gx, 2, none⟩)) := HD.out ⟨0, .data⟩ (by simp) rfl (by decide)
              rw [e1] at q29
              obtain ⟨x0, x1, x2⟩ := HF.out.2.1.out
              have hP := (rfl : u = u)
              clear hin hout ho hi hip
              go_simp
              exact hK _ _ (Below.refl _ _) hP
            · obtain rfl := Option.some.inj ho
              have sl8 : T'[8]? = some (.pointer (some ⟨gc, 0, none⟩)) := (hout 8 (by decide)).trans rfl
              clear hin hout ho hi hip
              go_simp
              exact hK _ _ (Below.refl _ _) rfl
            · obtain rfl := Option.some.inj ho
              have q31 := hin 31 (by decide)
              have e1 : v 31 = (.pointer (some ⟨gc, 0, none⟩)) := HD.out ⟨2, .data⟩ (by simp) rfl (by decide)
              rw [e1] at q31
              obtain ⟨k0, k1, k2⟩ := HF.out.2.2.1.out
              have hP := (rfl : Value.agg #[.int .i64 h.t, .int .i64 h.l] = .agg #[.int .i64 h.t, .int .i64 h.l])
              clear hin hout ho hi hip
              go_simp
              exact hK _ _ (Below.refl _ _) hP
            · obtain rfl := Option.some.inj ho
              clear hin hout ho hi hip
              go_simp
              exact hK _ _ (below_alloc _ _) ⟨_, rfl⟩
            · obtain rfl := Option.some.inj ho
              have sl8 : T'[8]? = some (.pointer (some ⟨gc, 0, none⟩)) := (hout 8 (by decide)).trans rfl
              clear hin hout ho hi hip
              go_simp
              exact hK _ _ (Below.refl _ _) rfl
            · obtain rfl := Option.some.inj ho
              have q34 := hin 34 (by decide)
              have e1 : v 34 = (.pointer (some ⟨gc, 2, none⟩)) := HD.out ⟨5, .data⟩ (by simp) rfl (by decide)
              rw [e1] at q34
              obtain ⟨k0, k1, k2⟩ := HF.out.2.2.1.out
              have hP := (rfl : Value.slice h.A h.n h.c = .slice h.A h.n h.c)
              clear hin hout ho hi hip
              go_simp
              exact hK _ _ (Below.refl _ _) hP
            · obtain rfl := Option.some.inj ho
              have q33 := hin 33 (by decide)
              have q35 := hin 35 (by decide)
              have e0 : Sm.ok (.eb) (v 33) wx := HD.out ⟨4, .data⟩ (by simp) rfl (by decide)
              have e1 : v 35 = (.slice h.A h.n h.c) := HD.out ⟨6, .data⟩ (by simp) rfl (by decide)
              rw [e1] at q35
              obtain ⟨ee, e5⟩ := e0
              rw [e5] at q33
              obtain ⟨A7, c7, W7, hr7, hb7, hbl7⟩ := run_copyB wx 63 ee h h.c (HBR.out wx HF.out.1) HLE2.out
              have hle7 : V.heap.size ≤ wx.heap.size := HF.out.2.2.2
              clear hin hout ho hi hip
              exact step_app rfl (.tmp 33) (.tmp 35) 63 rfl _ _ _ (ev_tmp q33) (ev_tmp q35) hr7 (hK _ _ hbl7 ⟨A7, c7, rfl, hb7.imp fun b _ hp => Nat.le_trans hle7 hp⟩)
            · obtain rfl := Option.some.inj ho
              have q32 := hin 32 (by decide)
              have q36 := hin 36 (by decide)
              have e0 : v 32 = (.agg #[.int .i64 h.t, .int .i64 h.l]) := HD.out ⟨3, .data⟩ (by simp) rfl (by decide)
              rw [e0] at q32
              have e1 : Sm.ok (.br V.heap.size h) (v 36) wx := HD.out ⟨7, .data⟩ (by simp) rfl (by decide)
              obtain ⟨A5, c5, e5, hb5⟩ := e1
              rw [e5] at q36
              clear hin hout ho hi hip
              go_simp
              exact hK _ _ (Below.refl _ _) ⟨A5, c5, rfl, hb5⟩
            · obtain rfl := Option.some.inj ho
              have q37 := hin 37 (by decide)
              have e0 : Sm.ok (.co V.heap.size h) (v 37) wx := HD.out ⟨8, .data⟩ (by simp) rfl (by decide)
              obtain ⟨A5, c5, e5, hb5⟩ := e0
              rw [e5] at q37
              have hle9 : V.heap.size ≤ wx.heap.size := HF.out.2.2.2
              have hb9 : BrP (fun b => V.heap.size ≤ b) (wx.alloc (.cells #[.int .i64 h.t, .int .i64 h.l, .slice A5 h.n c5] 65)) ⟨h.t, h.l, A5, h.n, c5, h.tw, h.ct, h.cl⟩ := hb5.stay (below_alloc _ _).size fun b hlt _ => (below_alloc _ _).block b hlt
              clear hin hout ho hi hip
              go_simp
              exact hK _ _ (below_alloc _ _) ⟨_, A5, c5, rfl, hle9, Bw.new _ _ _ _ _, hb9⟩
            · obtain rfl := Option.some.inj ho
              have sl6 : T'[6]? = some (.pointer (some ⟨gx, 0, none⟩)) := (hout 6 (by decide)).trans rfl
              clear hin hout ho hi hip
              go_simp
              exact hK _ _ (Below.refl _ _) rfl
          · intro v wx o T' K ho hC hF1 hdep hin hout hK
            obtain rfl := Option.some.inj ho
            have q30 := hin 30 (by decide)
            have q38 := hin 38 (by decide)
            have e0 : v 30 = u := hdep ⟨1, .data⟩ (by simp) rfl (by decide)
            have h9 : Sm.ok (.el V.heap.size h) (v 38) wx := hdep ⟨9, .data⟩ (by simp) rfl (by decide)
            rw [e0] at q30
            obtain ⟨e9, A5, c5, e5, hlo, hbw, hbr5⟩ := h9
            rw [e5] at q38
            obtain ⟨k0, k1, k2⟩ := hbw.out
            obtain ⟨x9, W9, hr9, ho9, hg9⟩ := run_pushC hF1 HJ1.out (Nat.le_trans (Nat.le_trans HZV.out hC.2.2.2) (Nat.le_refl _)) 51 e9 0 1 ⟨h.t, h.l, A5, h.n, c5, h.tw, h.ct, h.cl⟩ k0 k1 k2 (hbr5.imp fun b _ hp => ⟨fun e => by have h5 := (HOB.out b e.symm).2; have h6 := HGCV.out; have h7 : V.heap.size ≤ b := hp; omega, Nat.le_trans HZV.out hp⟩)
            have HK := Lib.hid (hK _ _ hg9 ⟨_, ho9, fun i hi => by
              by_cases e : i = j
              · rw [if_pos e, e, HSJ.out]; exact ⟨rfl, rfl, rfl, fun _ _ => ⟨rfl, rfl, rfl⟩⟩
              · rw [if_neg e]; exact HLK.out i (by omega)⟩)
            exact step_app rfl (.tmp 30) (.tmp 38) 51 rfl _ _ _ (ev_tmp q30) (ev_tmp q38) hr9 HK.out
          · intro v wx o T' K ho hC hF2 hall hin hout hK
            obtain rfl := Option.some.inj ho
            have q39 := hin 39 (by decide)
            have q40 := hin 40 (by decide)
            have e11 : v 40 = .pointer (some ⟨gx, 2, none⟩) := hall 11 (by decide) (by decide)
            rw [e11] at q40
            have hF2 : CpsF2 Z2.heap.size j src (v 39) wx := hF2
            have HE := Lib.hid (cpsEnd hC.1 HGX.out hC.2.1 hF2)
            obtain ⟨x0, x1, x2⟩ := hC.2.1.out
            obtain ⟨f0, f1, f2⟩ := hC.2.1.frz
            obtain ⟨A9, c9, e9, -⟩ : ∃ A c, v 39 = .slice A (j + 1) c ∧ True := by obtain ⟨ch5, h5, -⟩ := hF2; obtain ⟨A, c, e, -⟩ := own_rows h5.1; exact ⟨A, c, e, trivial⟩
            generalize v 39 = x9 at *
            subst e9
            have HK := Lib.hid (hK _ HE.out)
            clear hin hout hall ho hF2 hC e11 HE hK
            go_simp
            exact HK.out
          · intro v wx hE
            have HE := Lib.hid hE
            clear hE
            simp only [over, List.setIfInBounds_toArray, List.set_cons_zero, List.set_cons_succ]
            generalize v 29 = v29
            generalize v 30 = v30
            generalize v 31 = v31
            generalize v 32 = v32
            generalize v 33 = v33
            generalize v 34 = v34
            generalize v 35 = v35
            generalize v 36 = v36
            generalize v 37 = v37
            generalize v 38 = v38
            generalize v 39 = v39
            generalize v 40 = v40
            obtain ⟨u9, hcp, hbl⟩ := HE.out
            have HCP := Lib.hid hcp
            have HBL := Lib.hid hbl
            clear hcp hbl HE
            go_wp2_with fail
            exact ⟨⟨j + 1, Lib.hid (by omega), by rw [show ((j + 1 : Nat) : Int) = (j : Int) + 1 from by omega], ⟨u9, HCP⟩, HBL⟩, by simp [intOf]; omega⟩
        · have hje : j = m := by have := hj.out; omega
          have hltj' : ¬ (j : Int) < (m : Int) := by omega
          subst hje
          obtain ⟨hbw, ch, hown, hlk⟩ := hC.out
          obtain ⟨A5, c5, e5, hsp⟩ := hown.stP ow mrk
          subst e5
          have hcap := own_cap hown.1
          have hw0r : Below w0.heap.size w0 wr := HW2.out.trans (hB2.out.mono HWX.out)
          obtain ⟨hb1, st2, hos, hl2⟩ := hO.out
          have hb1r := hb1.keep hw0r
          have hosr := hos.keep hw0r
          have hbel : Below wr.heap.size wr (wr.alloc (.cells #[.int .i64 ow, .int .i64 mrk, .slice A5 j c5] 53)) := below_alloc _ _
          have hnew := Bw.new wr 53 (.int .i64 ow) (.int .i64 mrk) (.slice A5 j c5)
          obtain ⟨n0, n1, n2⟩ := hnew.out
          have hown0 := hosr.lt
          have hown1 := hos.lt
          have hwx := HWX.out
          have hgx := HGX.out
          have hzle : Z.heap.size ≤ wr.heap.size := Nat.le_trans hB.out.size hw0r.size
          obtain ⟨v1, W1, hr, ho1, hg1⟩ := run_pushS (hosr.keep hbel) (by omega) (Nat.le_trans hzle hbel.size) 22 wr.heap.size 0 1 ⟨ow, mrk, A5, j, c5, ch⟩ n0 n1 n2
            ((hsp.stay hbel.size fun b hlt _ => hbel.block b hlt).imp fun b _ hp => ⟨fun e => by have h1 := (hown1 b e.symm).2; have h2 : Z2.heap.size ≤ b := hp; omega, by have h2 : Z2.heap.size ≤ b := hp; have h3 := hB.out.size; omega⟩)
          obtain ⟨A6, c6, e6, -⟩ := own_rows ho1.1
          subst e6
          have hg3 := hb1r.keep hbel
          have hg3' : B1 W1 g3 24 v0 := hg3.block (hg1.block g3 hg3.lt fun e => by have h1 := (hown0 g3 e.symm).1; have h2 := HZS.out; omega)
          have HP := Lib.hid (hg3'.put (.slice A6 (k + 1) c6))
          have HS2' := Lib.hid (ho1.stay (w' := W1.setCell ⟨g3, 0, none⟩ (.slice A6 (k + 1) c6)) (by simp [World.setCell]) fun b _ hp => Below.heap_setCell _ ⟨g3, 0, none⟩ _ b (by have h2 := HZS.out; show b ≠ g3; rcases hp with hp | hp <;> omega))
          have HB5 : Hid (Below g3 Z (W1.setCell ⟨g3, 0, none⟩ (.slice A6 (k + 1) c6))) := by
            have h1 := hB.out.trans (hw0r.mono (by have := hb1.lt; omega))
            have h2 := h1.trans (hbel.mono (by have := hb1r.lt; omega))
            have h3 := below_grown h2 hg1 (fun b hb => by have h5 := (hown0 b hb).1; have h6 := HZS.out; omega) (by have := HZS.out; omega)
            exact Lib.hid (h3.setCell (p := ⟨g3, 0, none⟩) (Nat.le_refl _) _)
          have HL5 : Hid (∀ i, i < k + 1 → StL ((fun i => if i = k then (⟨ow, mrk, A5, j, c5, ch⟩ : StV) else st2 i) i) (st i) ∧ ((fun i => if i = k then (⟨ow, mrk, A5, j, c5, ch⟩ : StV) else st2 i) i).n ≤ ((fun i => if i = k then (⟨ow, mrk, A5, j, c5, ch⟩ : StV) else st2 i) i).c) := Lib.hid fun i hi => by
            dsimp only
            by_cases e : i = k
            · rw [if_pos e, e, HSK.out]; exact ⟨⟨rfl, rfl, rfl, hlk⟩, hcap⟩
            · rw [if_neg e]; exact hl2 i (by omega)
          obtain ⟨x0, x1, x2⟩ := hbw.out
          have b0 := hb1r.out
          have f0 := hg3'.frz
          have b1 := hg3'.out
          have hl3 := hg3'.lt
          have hl4 := hb1r.lt
          clear hcap hbw hown hlk hsp hw0r hb1 hos hl2 hb1r hosr hbel hnew n0 n1 n2 hown0 hown1 hwx hgx hzle hg3 hg3' ho1 hg1 hC hO
          go_wp2_with (at_builtin; refine wpList_app rfl _ _ 22 rfl _ _ _ rfl rfl hr ?_)
          exact ⟨⟨k + 1, Lib.hid (by omega), by rw [show ((k + 1 : Nat) : Int) = (k : Int) + 1 from by omega], ⟨_, Lib.hid ⟨HP.out, _, HS2'.out, HL5.out⟩⟩, HB5⟩, by simp [intOf]; omega⟩
    · have hke : k = n := by have := hk.out; omega
      have hlt' : ¬ (k : Int) < (n : Int) := by omega
      subst hke
      obtain ⟨hb1, st2, hos, hl2⟩ := hO.out
      obtain ⟨A6, c6, e6, hrows⟩ := own_rows hos.1
      subst e6
      have h2 : B1 wr (w.heap.size + 1) 24 (.slice none 0 0) := HB2.out.block (hB.out.block _ (by have := HG3.out; omega))
      have HP := Lib.hid (h2.put (.slice A6 k c6))
      have HLP : Hid (LstP (fun b => w.heap.size ≤ b) (wr.setCell ⟨w.heap.size + 1, 0, none⟩ (.slice A6 k c6)) A6 k st2) := Lib.hid ((LstP.stay (P := fun b => Z.heap.size ≤ b) (w := wr) ⟨hrows.imp fun b _ hp => hp.2, fun i hi => (hos.2 i hi).imp fun b _ hp => hp.2⟩ (w' := wr.setCell ⟨w.heap.size + 1, 0, none⟩ (.slice A6 k c6)) (by simp [World.setCell]) fun b _ hp => Below.heap_setCell _ ⟨w.heap.size + 1, 0, none⟩ _ b (by have h3 := HZS.out; have h4 := HG3.out; have h5 : Z.heap.size ≤ b := hp; show b ≠ w.heap.size + 1; omega)).imp fun b _ hp => by have h3 := HZS.out; have h4 := HG3.out; have h5 : Z.heap.size ≤ b := hp; show w.heap.size ≤ b; omega)
      have HB6 := Lib.hid (HWB.out.setCell (p := ⟨w.heap.size + 1, 0, none⟩) (Nat.le_add_right _ _) (.slice A6 k c6))
      have HLK := Lib.hid hl2
      have b0 := hb1.out
      have r0 := h2.out
      have f0 := h2.frz
      have hrl := h2.lt
      clear hb1 hos hl2 hrows h2 hO
      generalize w.heap.size + 1 = g2 at *
      go_wp2_with fail
      generalize wr.setCell ⟨g2, 0, none⟩ (.slice A6 k c6) = V at *
      have c0 := HP.out.out
      exact bodyPost_ret (v := .agg #[.slice A6 k c6]) (by simp [results, Tryz.results25, go_sem, c0]) rfl ⟨_, _, st2, rfl, HLP.out.to, HLK.out, HB6.out⟩
end Go.Proofs.YtokbejkkpekpnaaGreatDoor
