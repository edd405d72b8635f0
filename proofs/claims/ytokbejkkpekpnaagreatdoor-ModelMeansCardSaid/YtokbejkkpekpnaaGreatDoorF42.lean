/- The closures of the program's Fix, FixFor and Goal: what they return for state i. -/
import Derived.Test.YtokbejkkpekpnaaGreatDoorF41
import Derived.Test.YtokbejkkpekpnaaGreatDoorF33
import Derived.Test.YtokbejkkpekpnaaGreatDoorF35
import Derived.Test.YtokbejkkpekpnaaGreatDoorF39
import Derived.Deep.Draws
import Derived.Deep.LoopGhost

set_option maxRecDepth 100000
set_option maxHeartbeats 40000000
namespace Go.Proofs.YtokbejkkpekpnaaGreatDoor
open Go.RowKit
def Rd3 (w : World) (b o : Nat) (p q r : Value) : Prop := b < w.heap.size ∧ w.cell? ⟨b, o, none⟩ = some p ∧ w.cell? ⟨b, o + 1, none⟩ = some q ∧ w.cell? ⟨b, o + 2, none⟩ = some r
theorem Rd3.keep {w w' : World} {b o : Nat} {p q r : Value} (h : Rd3 w b o p q r) (hb : Below w.heap.size w w') : Rd3 w' b o p q r :=
  ⟨Nat.lt_of_lt_of_le h.1 hb.size, (hb.cell (p := ⟨b, o, none⟩) h.1).trans h.2.1, (hb.cell (p := ⟨b, o + 1, none⟩) h.1).trans h.2.2.1, (hb.cell (p := ⟨b, o + 2, none⟩) h.1).trans h.2.2.2⟩
def Rd1 (w : World) (b o : Nat) (p : Value) : Prop := b < w.heap.size ∧ w.cell? ⟨b, o, none⟩ = some p
theorem Rd1.keep {w w' : World} {b o : Nat} {p : Value} (h : Rd1 w b o p) (hb : Below w.heap.size w w') : Rd1 w' b o p :=
  ⟨Nat.lt_of_lt_of_le h.1 hb.size, (hb.cell (p := ⟨b, o, none⟩) h.1).trans h.2⟩
theorem Lst.at {w : World} {A : Option Addr} {n i : Nat} {st : Nat → StV} (h : Lst w A n st) (hi : i < n) : ∃ b off, A = some ⟨b, off, none⟩ ∧ Rd3 w b (off + i * 3) (.int .i64 (st i).ow) (.int .i64 (st i).mrk) (.slice (st i).A (st i).n (st i).c) ∧ Lch w (st i).A (st i).n (st i).ch := by
  obtain ⟨b, off, e, hb, hc⟩ := h.1 (by omega)
  exact ⟨b, off, e, ⟨hb, (hc i hi).1, (hc i hi).2.1, (hc i hi).2.2⟩, h.2 i hi⟩
theorem Lch.at {w : World} {A : Option Addr} {n i : Nat} {ch : Nat → ChV} (h : Lch w A n ch) (hi : i < n) : ∃ b off, A = some ⟨b, off, none⟩ ∧ Rd3 w b (off + i * 3) (.int .i64 (ch i).t) (.int .i64 (ch i).l) (.slice (ch i).A (ch i).n (ch i).c) ∧ Lbr w (ch i).A (ch i).n (ch i).tw (ch i).ct (ch i).cl := by
  obtain ⟨b, off, e, hb, hc⟩ := h.1 (by omega)
  exact ⟨b, off, e, ⟨hb, (hc i hi).1, (hc i hi).2.1, (hc i hi).2.2⟩, h.2 i hi⟩
theorem Lin.at {w : World} {A : Option Addr} {n i : Nat} {f : Nat → Int} (h : Lin w A n f) (hi : i < n) : ∃ b off, A = some ⟨b, off, none⟩ ∧ Rd1 w b (off + i) (.int .i64 (f i)) := by
  obtain ⟨b, off, e, hb, hc⟩ := h (by omega)
  exact ⟨b, off, e, hb, hc i hi⟩
def EndT (P : Nat → Prop) (w : World) (g : Nat) (tg : StV) (w' : World) : Prop := ∃ s : StV, Bw w' g 53 (.int .i64 s.ow) (.int .i64 s.mrk) (.slice s.A s.n s.c) ∧ StL s tg ∧ StP P w' s ∧ Below w.heap.size w w'
theorem fixEnd {P : Nat → Prop} {w Z wx : World} {g : Nat} {s tg : StV} {a b c : Value} (hZ : Below w.heap.size w Z) (hg : w.heap.size ≤ g) (hx : Below Z.heap.size Z wx) (hb : Bw wx g 53 a b c) (hP : ∀ b, P b → b ≠ g) (hs : StL s tg) (hc : StP P wx s) :
    EndT P w g tg (((wx.setCell ⟨g, 0, none⟩ (.int .i64 s.ow)).setCell ⟨g, 1, none⟩ (.int .i64 s.mrk)).setCell ⟨g, 2, none⟩ (.slice s.A s.n s.c)) :=
  ⟨s, hb.put _ _ _, hs, hc.stay (Nat.le_of_eq size_cells.symm) fun b _ hp => far_cells (hP b hp), below_put (hZ.trans (hx.mono hZ.size)) hg 0 1 2 _ _ _⟩
theorem fix1_any (gm gs : Nat) (A B : Option Addr) (n c m d : Nat) (st : Nat → StV) (f : Nat → Int) (ix : Nat) (w : World) (HM : Hid (MBx w gm A n c)) (HSS : Hid (MBx w gs B m d)) (hA : Lst w A n st) (hB : Lin w B m f) (hi : ix < n) (him : ix < m) (h0 : 0 ≤ f ix) (hf : (f ix).toNat < (st ix).n) :
    Calls Tryz.prog 62 #[.int .i64 (ix : Int), .pointer (some ⟨gm, 0, none⟩), .pointer (some ⟨gs, 0, none⟩)] w (RetT (fun _ => True) (fixT st f ix) w) := by
  obtain ⟨b, off, rfl, hS3, hL⟩ := hA.at hi
  obtain ⟨b2, off2, rfl, hz⟩ := hB.at him
  obtain ⟨fk, hfk⟩ := Int.eq_ofNat_of_zero_le h0
  have hfn : (f ix).toNat = fk := by rw [hfk]; rfl
  have hT : fixT st f ix = fxS (st ix) fk := by unfold fixT; rw [hfn]
  rw [hfn] at hf
  rw [hfk] at hz
  generalize fixT st f ix = goalT at *
  clear hfk hfn h0 hA hB
  generalize st ix = S at *
  obtain ⟨ow, mrk, D, k, d1, ch⟩ := S
  dsimp only at hS3 hf hL hT
  obtain ⟨b3, off3, e3, hC3, hbr⟩ := hL.at hf
  subst e3
  generalize hH : ch fk = H at hC3 hbr
  obtain ⟨t, l, E, q, e, tw, ct, cl⟩ := H
  have HH := Lib.hid hH
  have HBR := Lib.hid hbr
  clear hH hbr hL
  dsimp only at hC3
  have hlt1 : (ix : Int) < (n : Int) := by omega
  have hlt2 : (ix : Int) < (m : Int) := by omega
  have hlt3 : (fk : Int) < (k : Int) := by omega
  have HS3 := Lib.hid hS3
  have HZZ := Lib.hid hz
  have HC3 := Lib.hid hC3
  clear hS3 hz hC3
  have HTG0 := Lib.hid hT
  clear hT
  have HTG := HTG0
  go_enter Tryz.func62, Tryz.ntmps62
  go_upto_region 1 with fail
  generalize hX : w.alloc _ = X
  have hbx : Below w.heap.size w X := by rw [← hX]; exact below_alloc _ _
  have hrx : Bw X w.heap.size 53 (.int .i64 0) (.int .i64 0) (.slice none 0 0) := by rw [← hX]; exact Bw.new _ _ _ _ _
  have HBX0 := Lib.hid hbx
  have HRX := Lib.hid hrx
  obtain ⟨m0, -⟩ := HM.out.keep hbx
  obtain ⟨-, s0, s1, s2⟩ := HS3.out.keep hbx
  clear hX hbx hrx
  go_upto_region 2 with fail
  clear m0 s0 s1 s2
  generalize hZ : X.alloc _ = Z
  have hbz : Below X.heap.size X Z := by rw [← hZ]; exact below_alloc _ _
  have HZ0 : Hid (Below w.heap.size w Z) := Lib.hid (HBX0.out.trans (hbz.mono HBX0.out.size))
  have HBX : Hid (Bw Z X.heap.size 53 (.int .i64 ow) (.int .i64 mrk) (.slice (some ⟨b3, off3, none⟩) k d1)) := by rw [← hZ]; exact Lib.hid (Bw.new _ _ _ _ _)
  have HR : Hid (Bw Z w.heap.size 53 (.int .i64 0) (.int .i64 0) (.slice none 0 0)) := Lib.hid (HRX.out.keep hbz)
  have HSB : Hid (MBx Z gs (some ⟨b2, off2, none⟩) m d) := Lib.hid (HSS.out.keep HZ0.out)
  have HZ1 : Hid (Rd1 Z b2 (off2 + ix) (.int .i64 (fk : Int))) := Lib.hid (HZZ.out.keep HZ0.out)
  have HC1 : Hid (Rd3 Z b3 (off3 + fk * 3) (.int .i64 t) (.int .i64 l) (.slice E q e)) := Lib.hid (HC3.out.keep HZ0.out)
  have HO : Hid (∀ wx, Below Z.heap.size Z wx → Calls Tryz.prog 63 #[.agg #[.int .i64 ow, .int .i64 mrk, .slice (some ⟨b3, off3, none⟩) k d1], .agg #[.int .i64 t, .int .i64 l, .slice E q e]] wx (RetT (fun b => b ≠ w.heap.size) (fxS ⟨ow, mrk, some ⟨b3, off3, none⟩, k, d1, ch⟩ fk) wx)) := Lib.hid fun wx hx => by
    have hwx := HZ0.out.trans (hx.mono HZ0.out.size)
    have hlt := HR.out.lt
    have hle := hx.size
    have := only_any (fun b => b ≠ w.heap.size) ow mrk t l (some ⟨b3, off3, none⟩) E k d1 q e tw ct cl wx (fun b hb => by omega) ((BrP.of (P := fun b => b ≠ w.heap.size) (h := ⟨t, l, E, q, e, tw, ct, cl⟩) HBR.out (fun b hb => by omega)).stay hwx.size fun b hlt _ => hwx.block b hlt)
    show Calls _ _ _ _ (RetT _ ⟨ow, mrk, none, 1, 1, fun _ => ch fk⟩ wx)
    rw [HH.out]
    exact this
  clear hZ hbz HBX0 HRX HM HSS HS3 HZZ HC3 HBR HH
  obtain ⟨g4, hg4⟩ : ∃ g4, w.heap.size = g4 := ⟨_, rfl⟩
  have HG : Hid (w.heap.size ≤ g4) := Lib.hid (Nat.le_of_eq hg4)
  rw [hg4] at HR HO ⊢
  clear hg4
  generalize X.heap.size = g5 at HBX ⊢
  refine wp_region_flow_store 10 [11, 12, 13, 14, 15, 16, 17, 18, 19, 20] (fun i => 11 + i) (Below Z.heap.size Z) (EndT (fun b => b ≠ g4) w g4 (fxS ⟨ow, mrk, some ⟨b3, off3, none⟩, k, d1, ch⟩ fk)) (Sml [.val (.agg #[.int .i64 ow, .int .i64 mrk, .slice (some ⟨b3, off3, none⟩) k d1]), .val (.pointer (some ⟨g5, 2, none⟩)), .val (.slice (some ⟨b3, off3, none⟩) k d1), .val (.slice (some ⟨b2, off2, none⟩) m d), .val (.int .i64 (ix : Int)), .val (.pointer (some ⟨b2, off2 + ix, none⟩)), .val (.int .i64 (fk : Int)), .val (.pointer (some ⟨b3, off3 + fk * 3, none⟩)), .val (.agg #[.int .i64 t, .int .i64 l, .slice E q e]), .st (fun b => b ≠ g4) (fxS ⟨ow, mrk, some ⟨b3, off3, none⟩, k, d1, ch⟩ fk)]) (by kernel_rfl) (by kernel_rfl) (by kernel_rfl) (by kernel_rfl) (by kernel_rfl) (fun i j _ _ h => Nat.add_left_cancel (show 11 + i = 11 + j from h)) (by decide) (fun wx wy (h : Below Z.heap.size Z wx) hb => h.trans (hb.mono h.size)) Sml.keep ?_ ?_ ?_ ?_
  · exact Below.drew (Below.refl _ _)
  · intro i v wx o T' K hi ho hF hdep hin hout hK
    have HF := Lib.hid hF
    have HD := Lib.hid hdep
    clear hF hdep
    rcases (by omega : i = 0 ∨ i = 1 ∨ i = 2 ∨ i = 3 ∨ i = 4 ∨ i = 5 ∨ i = 6 ∨ i = 7 ∨ i = 8 ∨ i = 9) with rfl | rfl | rfl | rfl | rfl | rfl | rfl | rfl | rfl | rfl
    · obtain rfl := Option.some.inj ho
      have sl5 : T'[5]? = some (.pointer (some ⟨g5, 0, none⟩)) := (hout 5 (by decide)).trans rfl
      obtain ⟨k0, k1, k2⟩ := (HBX.out.keep HF.out).out
      have hP := (rfl : (.agg #[.int .i64 ow, .int .i64 mrk, .slice (some ⟨b3, off3, none⟩) k d1] : Value) = .agg #[.int .i64 ow, .int .i64 mrk, .slice (some ⟨b3, off3, none⟩) k d1])
      clear hin hout ho hi
      go_simp
      exact hK _ _ (Below.refl _ _) hP
    · obtain rfl := Option.some.inj ho
      have sl5 : T'[5]? = some (.pointer (some ⟨g5, 0, none⟩)) := (hout 5 (by decide)).trans rfl
      clear hin hout ho hi
      go_simp
      exact hK _ _ (Below.refl _ _) rfl
    · obtain rfl := Option.some.inj ho
      have q12 := hin 12 (by decide)
      have e1 : v 12 = (.pointer (some ⟨g5, 2, none⟩)) := HD.out ⟨1, .data⟩ (by simp) rfl
      rw [e1] at q12
      obtain ⟨k0, k1, k2⟩ := (HBX.out.keep HF.out).out
      have hP := (rfl : Value.slice (some ⟨b3, off3, none⟩) k d1 = .slice (some ⟨b3, off3, none⟩) k d1)
      clear hin hout ho hi
      go_simp
      exact hK _ _ (Below.refl _ _) hP
    · obtain rfl := Option.some.inj ho
      have sl2 : T'[2]? = some (.pointer (some ⟨gs, 0, none⟩)) := (hout 2 (by decide)).trans rfl
      obtain ⟨k0, -⟩ := HSB.out.keep HF.out
      have hP := (rfl : Value.slice (some ⟨b2, off2, none⟩) m d = .slice (some ⟨b2, off2, none⟩) m d)
      clear hin hout ho hi
      go_simp
      exact hK _ _ (Below.refl _ _) hP
    · obtain rfl := Option.some.inj ho
      have sl0 : T'[0]? = some (.int .i64 (ix : Int)) := (hout 0 (by decide)).trans rfl
      clear hin hout ho hi
      go_simp
      exact hK _ _ (Below.refl _ _) rfl
    · obtain rfl := Option.some.inj ho
      have q14 := hin 14 (by decide)
      have q15 := hin 15 (by decide)
      have e0 : v 14 = (.slice (some ⟨b2, off2, none⟩) m d) := HD.out ⟨3, .data⟩ (by simp) rfl
      rw [e0] at q14
      have e1 : v 15 = (.int .i64 (ix : Int)) := HD.out ⟨4, .data⟩ (by simp) rfl
      rw [e1] at q15
      clear hin hout ho hi
      go_simp
      exact hK _ _ (Below.refl _ _) rfl
    · obtain rfl := Option.some.inj ho
      have q16 := hin 16 (by decide)
      have e1 : v 16 = (.pointer (some ⟨b2, off2 + ix, none⟩)) := HD.out ⟨5, .data⟩ (by simp) rfl
      rw [e1] at q16
      obtain ⟨-, k0⟩ := HZ1.out.keep HF.out
      have hP := (rfl : Value.int .i64 (fk : Int) = .int .i64 (fk : Int))
      clear hin hout ho hi
      go_simp
      exact hK _ _ (Below.refl _ _) hP
    · obtain rfl := Option.some.inj ho
      have q13 := hin 13 (by decide)
      have q17 := hin 17 (by decide)
      have e0 : v 13 = (.slice (some ⟨b3, off3, none⟩) k d1) := HD.out ⟨2, .data⟩ (by simp) rfl
      rw [e0] at q13
      have e1 : v 17 = (.int .i64 (fk : Int)) := HD.out ⟨6, .data⟩ (by simp) rfl
      rw [e1] at q17
      clear hin hout ho hi
      go_simp
      exact hK _ _ (Below.refl _ _) rfl
    · obtain rfl := Option.some.inj ho
      have q18 := hin 18 (by decide)
      have e1 : v 18 = (.pointer (some ⟨b3, off3 + fk * 3, none⟩)) := HD.out ⟨7, .data⟩ (by simp) rfl
      rw [e1] at q18
      obtain ⟨-, k0, k1, k2⟩ := HC1.out.keep HF.out
      have hP := (rfl : Value.agg #[.int .i64 t, .int .i64 l, .slice E q e] = .agg #[.int .i64 t, .int .i64 l, .slice E q e])
      clear hin hout ho hi
      go_simp
      exact hK _ _ (Below.refl _ _) hP
    · obtain rfl := Option.some.inj ho
      have q11 := hin 11 (by decide)
      have q19 := hin 19 (by decide)
      have e0 : v 11 = (.agg #[.int .i64 ow, .int .i64 mrk, .slice (some ⟨b3, off3, none⟩) k d1]) := HD.out ⟨0, .data⟩ (by simp) rfl
      rw [e0] at q11
      have e1 : v 19 = (.agg #[.int .i64 t, .int .i64 l, .slice E q e]) := HD.out ⟨8, .data⟩ (by simp) rfl
      rw [e1] at q19
      clear hin hout ho hi
      go_simp
      (with_reducible refine (HO.out _ HF.out).mono ?_)
      rintro e w2 ⟨u, rfl, hu, hB⟩
      exact hK _ _ hB hu
  · intro v wx o T' K ho hF hall hin hout hK
    obtain rfl := Option.some.inj ho
    have sl4 : T'[4]? = some (.pointer (some ⟨g4, 0, none⟩)) := (hout 4 (by decide)).trans rfl
    have q20 := hin 20 (by decide)
    have h0 : Sm.ok (.st (fun b => b ≠ g4) (fxS ⟨ow, mrk, some ⟨b3, off3, none⟩, k, d1, ch⟩ fk)) (v 20) wx := hall 9 (by decide)
    clear hin hout hall ho
    obtain ⟨s, e5, hs, hc⟩ := h0
    rw [e5] at q20
    have HE := Lib.hid (fixEnd HZ0.out HG.out hF (HR.out.keep hF) (fun _ h => h) hs hc)
    obtain ⟨c0, c1, c2⟩ := (HR.out.keep hF).out
    obtain ⟨f0, f1, f2⟩ := (HR.out.keep hF).frz
    clear e5 hs hc hF
    go_simp
    exact hK _ HE.out
  · intro v wx hE
    obtain ⟨s, hb, hs, hc, hB⟩ := hE
    have HS := Lib.hid hs
    have HC := Lib.hid hc
    have HB := Lib.hid hB
    obtain ⟨c0, c1, c2⟩ := hb.out
    clear hs hc hB hb
    simp only [over, List.setIfInBounds_toArray, List.set_cons_zero, List.set_cons_succ]
    generalize v 11 = v11
    generalize v 12 = v12
    generalize v 13 = v13
    generalize v 14 = v14
    generalize v 15 = v15
    generalize v 16 = v16
    generalize v 17 = v17
    generalize v 18 = v18
    generalize v 19 = v19
    generalize v 20 = v20
    go_wp2_with fail
    exact bodyPost_ret (v := .agg #[.int .i64 s.ow, .int .i64 s.mrk, .slice s.A s.n s.c]) (by simp [results, Tryz.results62, go_sem, c0, c1, c2]) rfl ⟨_, rfl, ⟨s, rfl, (by rw [HTG.out]; exact HS.out), HC.out.imp fun _ _ _ => trivial⟩, HB.out⟩
theorem for1_any (gm gp gs : Nat) (pl : Int) (A B : Option Addr) (n c m d : Nat) (st : Nat → StV) (f : Nat → Int) (ix : Nat) (w : World) (HM : Hid (MBx w gm A n c)) (HPP : Hid (Rd1 w gp 0 (.int .i64 pl))) (HSS : Hid (MBx w gs B m d)) (hA : Lst w A n st) (hB : Lin w B m f) (hi : ix < n) (him : ix < m) (h0 : 0 ≤ f ix) (hf : (f ix).toNat < (st ix).n) :
    Calls Tryz.prog 64 #[.int .i64 (ix : Int), .pointer (some ⟨gm, 0, none⟩), .pointer (some ⟨gp, 0, none⟩), .pointer (some ⟨gs, 0, none⟩)] w (RetT (fun _ => True) (forT st f pl ix) w) := by
  have hT1 : (st ix).ow = pl → forT st f pl ix = fixT st f ix := fun h => if_pos h
  have hT2 : (st ix).ow ≠ pl → forT st f pl ix = st ix := fun h => if_neg h
  generalize forT st f pl ix = goalT at *
  obtain ⟨b, off, rfl, hS3, hL⟩ := hA.at hi
  obtain ⟨b2, off2, rfl, hz⟩ := hB.at him
  obtain ⟨fk, hfk⟩ := Int.eq_ofNat_of_zero_le h0
  have hfn : (f ix).toNat = fk := by rw [hfk]; rfl
  have hT : fixT st f ix = fxS (st ix) fk := by unfold fixT; rw [hfn]
  rw [hfn] at hf
  rw [hfk] at hz
  clear hfk hfn h0 hA hB
  generalize st ix = S at *
  obtain ⟨ow, mrk, D, k, d1, ch⟩ := S
  dsimp only at hT1 hT2
  dsimp only at hS3 hf hL hT
  obtain ⟨b3, off3, e3, hC3, hbr⟩ := hL.at hf
  subst e3
  generalize hH : ch fk = H at hC3 hbr
  obtain ⟨t, l, E, q, e, tw, ct, cl⟩ := H
  have HH := Lib.hid hH
  have HBR := Lib.hid hbr
  clear hH hbr
  have HLL := Lib.hid hL
  clear hL
  dsimp only at hC3
  have hlt1 : (ix : Int) < (n : Int) := by omega
  have hlt2 : (ix : Int) < (m : Int) := by omega
  have hlt3 : (fk : Int) < (k : Int) := by omega
  have HS3 := Lib.hid hS3
  have HZZ := Lib.hid hz
  have HC3 := Lib.hid hC3
  clear hS3 hz hC3
  have HTG0 := Lib.hid hT
  clear hT
  have HT1 := Lib.hid hT1
  have HT2 := Lib.hid hT2
  clear hT1 hT2
  go_enter Tryz.func64, Tryz.ntmps64
  go_upto_region 1 with fail
  generalize hX : w.alloc _ = X
  have hbx : Below w.heap.size w X := by rw [← hX]; exact below_alloc _ _
  have hrx : Bw X w.heap.size 53 (.int .i64 0) (.int .i64 0) (.slice none 0 0) := by rw [← hX]; exact Bw.new _ _ _ _ _
  have HBX0 := Lib.hid hbx
  have HRX := Lib.hid hrx
  obtain ⟨m0, -⟩ := HM.out.keep hbx
  obtain ⟨-, s0, s1, s2⟩ := HS3.out.keep hbx
  clear hX hbx hrx
  go_upto_region 2 with fail
  clear m0 s0 s1 s2
  generalize hZ : X.alloc _ = Z
  have hbz : Below X.heap.size X Z := by rw [← hZ]; exact below_alloc _ _
  have HZ0 : Hid (Below w.heap.size w Z) := Lib.hid (HBX0.out.trans (hbz.mono HBX0.out.size))
  have HBX : Hid (Bw Z X.heap.size 53 (.int .i64 ow) (.int .i64 mrk) (.slice (some ⟨b3, off3, none⟩) k d1)) := by rw [← hZ]; exact Lib.hid (Bw.new _ _ _ _ _)
  have HR : Hid (Bw Z w.heap.size 53 (.int .i64 0) (.int .i64 0) (.slice none 0 0)) := Lib.hid (HRX.out.keep hbz)
  have HSB : Hid (MBx Z gs (some ⟨b2, off2, none⟩) m d) := Lib.hid (HSS.out.keep HZ0.out)
  have HZ1 : Hid (Rd1 Z b2 (off2 + ix) (.int .i64 (fk : Int))) := Lib.hid (HZZ.out.keep HZ0.out)
  have HC1 : Hid (Rd3 Z b3 (off3 + fk * 3) (.int .i64 t) (.int .i64 l) (.slice E q e)) := Lib.hid (HC3.out.keep HZ0.out)
  have HL1 : Hid (StP (fun b => b ≠ w.heap.size) Z ⟨ow, mrk, some ⟨b3, off3, none⟩, k, d1, ch⟩) := Lib.hid ((StP.of (P := fun b => b ≠ w.heap.size) (s := ⟨ow, mrk, some ⟨b3, off3, none⟩, k, d1, ch⟩) HLL.out (fun b hb => by omega)).stay HZ0.out.size fun b hlt _ => HZ0.out.block b hlt)
  obtain ⟨-, p0⟩ := HPP.out.keep HZ0.out
  obtain ⟨x0, x1, x2⟩ := HBX.out.out
  have HO : Hid (∀ wx, Below Z.heap.size Z wx → Calls Tryz.prog 63 #[.agg #[.int .i64 ow, .int .i64 mrk, .slice (some ⟨b3, off3, none⟩) k d1], .agg #[.int .i64 t, .int .i64 l, .slice E q e]] wx (RetT (fun b => b ≠ w.heap.size) (fxS ⟨ow, mrk, some ⟨b3, off3, none⟩, k, d1, ch⟩ fk) wx)) := Lib.hid fun wx hx => by
    have hwx := HZ0.out.trans (hx.mono HZ0.out.size)
    have hlt := HR.out.lt
    have hle := hx.size
    have := only_any (fun b => b ≠ w.heap.size) ow mrk t l (some ⟨b3, off3, none⟩) E k d1 q e tw ct cl wx (fun b hb => by omega) ((BrP.of (P := fun b => b ≠ w.heap.size) (h := ⟨t, l, E, q, e, tw, ct, cl⟩) HBR.out (fun b hb => by omega)).stay hwx.size fun b hlt _ => hwx.block b hlt)
    show Calls _ _ _ _ (RetT _ ⟨ow, mrk, none, 1, 1, fun _ => ch fk⟩ wx)
    rw [HH.out]
    exact this
  clear hZ hbz HBX0 HRX HM HSS HS3 HZZ HC3 HBR HH HLL HPP
  obtain ⟨g4, hg4⟩ : ∃ g4, w.heap.size = g4 := ⟨_, rfl⟩
  have HG : Hid (w.heap.size ≤ g4) := Lib.hid (Nat.le_of_eq hg4)
  rw [hg4] at HR HO HL1 ⊢
  clear hg4
  generalize X.heap.size = g5 at HBX x0 x1 x2 ⊢
  by_cases hp : ow = pl
  · subst hp
    have HTG := Lib.hid ((HT1.out rfl).trans HTG0.out)
    clear HT1 HT2 HL1
    go_upto_region 4 with fail
    clear p0 x0 x1 x2
    refine wp_region_flow_store 10 [17, 18, 19, 20, 21, 22, 23, 24, 25, 26] (fun i => 17 + i) (Below Z.heap.size Z) (EndT (fun b => b ≠ g4) w g4 (fxS ⟨ow, mrk, some ⟨b3, off3, none⟩, k, d1, ch⟩ fk)) (Sml [.val (.agg #[.int .i64 ow, .int .i64 mrk, .slice (some ⟨b3, off3, none⟩) k d1]), .val (.pointer (some ⟨g5, 2, none⟩)), .val (.slice (some ⟨b3, off3, none⟩) k d1), .val (.slice (some ⟨b2, off2, none⟩) m d), .val (.int .i64 (ix : Int)), .val (.pointer (some ⟨b2, off2 + ix, none⟩)), .val (.int .i64 (fk : Int)), .val (.pointer (some ⟨b3, off3 + fk * 3, none⟩)), .val (.agg #[.int .i64 t, .int .i64 l, .slice E q e]), .st (fun b => b ≠ g4) (fxS ⟨ow, mrk, some ⟨b3, off3, none⟩, k, d1, ch⟩ fk)]) (by kernel_rfl) (by kernel_rfl) (by kernel_rfl) (by kernel_rfl) (by kernel_rfl) (fun i j _ _ h => Nat.add_left_cancel (show 17 + i = 17 + j from h)) (by decide) (fun wx wy (h : Below Z.heap.size Z wx) hb => h.trans (hb.mono h.size)) Sml.keep ?_ ?_ ?_ ?_
    · exact Below.drew (Below.refl _ _)
    · intro i v wx o T' K hi ho hF hdep hin hout hK
      have HF := Lib.hid hF
      have HD := Lib.hid hdep
      clear hF hdep
      rcases (by omega : i = 0 ∨ i = 1 ∨ i = 2 ∨ i = 3 ∨ i = 4 ∨ i = 5 ∨ i = 6 ∨ i = 7 ∨ i = 8 ∨ i = 9) with rfl | rfl | rfl | rfl | rfl | rfl | rfl | rfl | rfl | rfl
      · obtain rfl := Option.some.inj ho
        have sl6 : T'[6]? = some (.pointer (some ⟨g5, 0, none⟩)) := (hout 6 (by decide)).trans rfl
        obtain ⟨k0, k1, k2⟩ := (HBX.out.keep HF.out).out
        have hP := (rfl : (.agg #[.int .i64 ow, .int .i64 mrk, .slice (some ⟨b3, off3, none⟩) k d1] : Value) = .agg #[.int .i64 ow, .int .i64 mrk, .slice (some ⟨b3, off3, none⟩) k d1])
        clear hin hout ho hi
        go_simp
        exact hK _ _ (Below.refl _ _) hP
      · obtain rfl := Option.some.inj ho
        have sl6 : T'[6]? = some (.pointer (some ⟨g5, 0, none⟩)) := (hout 6 (by decide)).trans rfl
        clear hin hout ho hi
        go_simp
        exact hK _ _ (Below.refl _ _) rfl
      · obtain rfl := Option.some.inj ho
        have q18 := hin 18 (by decide)
        have e1 : v 18 = (.pointer (some ⟨g5, 2, none⟩)) := HD.out ⟨1, .data⟩ (by simp) rfl
        rw [e1] at q18
        obtain ⟨k0, k1, k2⟩ := (HBX.out.keep HF.out).out
        have hP := (rfl : Value.slice (some ⟨b3, off3, none⟩) k d1 = .slice (some ⟨b3, off3, none⟩) k d1)
        clear hin hout ho hi
        go_simp
        exact hK _ _ (Below.refl _ _) hP
      · obtain rfl := Option.some.inj ho
        have sl3 : T'[3]? = some (.pointer (some ⟨gs, 0, none⟩)) := (hout 3 (by decide)).trans rfl
        obtain ⟨k0, -⟩ := HSB.out.keep HF.out
        have hP := (rfl : Value.slice (some ⟨b2, off2, none⟩) m d = .slice (some ⟨b2, off2, none⟩) m d)
        clear hin hout ho hi
        go_simp
        exact hK _ _ (Below.refl _ _) hP
      · obtain rfl := Option.some.inj ho
        have sl0 : T'[0]? = some (.int .i64 (ix : Int)) := (hout 0 (by decide)).trans rfl
        clear hin hout ho hi
        go_simp
        exact hK _ _ (Below.refl _ _) rfl
      · obtain rfl := Option.some.inj ho
        have q20 := hin 20 (by decide)
        have q21 := hin 21 (by decide)
        have e0 : v 20 = (.slice (some ⟨b2, off2, none⟩) m d) := HD.out ⟨3, .data⟩ (by simp) rfl
        rw [e0] at q20
        have e1 : v 21 = (.int .i64 (ix : Int)) := HD.out ⟨4, .data⟩ (by simp) rfl
        rw [e1] at q21
        clear hin hout ho hi
        go_simp
        exact hK _ _ (Below.refl _ _) rfl
      · obtain rfl := Option.some.inj ho
        have q22 := hin 22 (by decide)
        have e1 : v 22 = (.pointer (some ⟨b2, off2 + ix, none⟩)) := HD.out ⟨5, .data⟩ (by simp) rfl
        rw [e1] at q22
        obtain ⟨-, k0⟩ := HZ1.out.keep HF.out
        have hP := (rfl : Value.int .i64 (fk : Int) = .int .i64 (fk : Int))
        clear hin hout ho hi
        go_simp
        exact hK _ _ (Below.refl _ _) hP
      · obtain rfl := Option.some.inj ho
        have q19 := hin 19 (by decide)
        have q23 := hin 23 (by decide)
        have e0 : v 19 = (.slice (some ⟨b3, off3, none⟩) k d1) := HD.out ⟨2, .data⟩ (by simp) rfl
        rw [e0] at q19
        have e1 : v 23 = (.int .i64 (fk : Int)) := HD.out ⟨6, .data⟩ (by simp) rfl
        rw [e1] at q23
        clear hin hout ho hi
        go_simp
        exact hK _ _ (Below.refl _ _) rfl
      · obtain rfl := Option.some.inj ho
        have q24 := hin 24 (by decide)
        have e1 : v 24 = (.pointer (some ⟨b3, off3 + fk * 3, none⟩)) := HD.out ⟨7, .data⟩ (by simp) rfl
        rw [e1] at q24
        obtain ⟨-, k0, k1, k2⟩ := HC1.out.keep HF.out
        have hP := (rfl : Value.agg #[.int .i64 t, .int .i64 l, .slice E q e] = .agg #[.int .i64 t, .int .i64 l, .slice E q e])
        clear hin hout ho hi
        go_simp
        exact hK _ _ (Below.refl _ _) hP
      · obtain rfl := Option.some.inj ho
        have q17 := hin 17 (by decide)
        have q25 := hin 25 (by decide)
        have e0 : v 17 = (.agg #[.int .i64 ow, .int .i64 mrk, .slice (some ⟨b3, off3, none⟩) k d1]) := HD.out ⟨0, .data⟩ (by simp) rfl
        rw [e0] at q17
        have e1 : v 25 = (.agg #[.int .i64 t, .int .i64 l, .slice E q e]) := HD.out ⟨8, .data⟩ (by simp) rfl
        rw [e1] at q25
        clear hin hout ho hi
        go_simp
        (with_reducible refine (HO.out _ HF.out).mono ?_)
        rintro e w2 ⟨u, rfl, hu, hB⟩
        exact hK _ _ hB hu
    · intro v wx o T' K ho hF hall hin hout hK
      obtain rfl := Option.some.inj ho
      have sl5 : T'[5]? = some (.pointer (some ⟨g4, 0, none⟩)) := (hout 5 (by decide)).trans rfl
      have q26 := hin 26 (by decide)
      have h0 : Sm.ok (.st (fun b => b ≠ g4) (fxS ⟨ow, mrk, some ⟨b3, off3, none⟩, k, d1, ch⟩ fk)) (v 26) wx := hall 9 (by decide)
      clear hin hout hall ho
      obtain ⟨s, e5, hs, hc⟩ := h0
      rw [e5] at q26
      have HE := Lib.hid (fixEnd HZ0.out HG.out hF (HR.out.keep hF) (fun _ h => h) hs hc)
      obtain ⟨c0, c1, c2⟩ := (HR.out.keep hF).out
      obtain ⟨f0, f1, f2⟩ := (HR.out.keep hF).frz
      clear e5 hs hc hF
      go_simp
      exact hK _ HE.out
    · intro v wx hE
      obtain ⟨s, hb, hs, hc, hB⟩ := hE
      have HS := Lib.hid hs
      have HC := Lib.hid hc
      have HB := Lib.hid hB
      obtain ⟨c0, c1, c2⟩ := hb.out
      clear hs hc hB hb
      simp only [over, List.setIfInBounds_toArray, List.set_cons_zero, List.set_cons_succ]
      generalize v 17 = v17
      generalize v 18 = v18
      generalize v 19 = v19
      generalize v 20 = v20
      generalize v 21 = v21
      generalize v 22 = v22
      generalize v 23 = v23
      generalize v 24 = v24
      generalize v 25 = v25
      generalize v 26 = v26
      go_wp2_with fail
      exact bodyPost_ret (v := .agg #[.int .i64 s.ow, .int .i64 s.mrk, .slice s.A s.n s.c]) (by simp [results, Tryz.results64, go_sem, c0, c1, c2]) rfl ⟨_, rfl, ⟨s, rfl, (by rw [HTG.out]; exact HS.out), HC.out.imp fun _ _ _ => trivial⟩, HB.out⟩
  · have HTG := Lib.hid (HT2.out hp)
    clear HT1 HT2 HO HC1 HZ1 HSB
    obtain ⟨r0, r1, r2⟩ := HR.out.out
    obtain ⟨f0, f1, f2⟩ := HR.out.frz
    have HE := Lib.hid (fixEnd (P := fun b => b ≠ g4) HZ0.out HG.out (Below.refl _ Z) HR.out (fun _ h => h) (StL.refl _) HL1.out)
    dsimp only at HE
    go_wp2_with fail
    generalize hV : World.setCell _ _ _ = V
    rw [hV] at HE
    obtain ⟨s, hb, hs, hc, hB⟩ := HE.out
    obtain ⟨c0, c1, c2⟩ := hb.out
    have HS := Lib.hid hs
    have HC := Lib.hid hc
    have HB := Lib.hid hB
    clear hV r0 r1 r2 f0 f1 f2 p0 x0 x1 x2 hs hc hB hb HE
    exact bodyPost_ret (v := .agg #[.int .i64 s.ow, .int .i64 s.mrk, .slice s.A s.n s.c]) (by simp [results, Tryz.results64, go_sem, c0, c1, c2]) rfl ⟨_, rfl, ⟨s, rfl, (by rw [HTG.out]; exact HS.out), HC.out.imp fun _ _ _ => trivial⟩, HB.out⟩
theorem memB_true {f : Nat → Int} {m i : Nat} {x : Int} (hi : i < m) (h : f i = x) : memB f m x = true := by
  unfold memB
  rw [allB_false (i := i) hi (by rw [decide_eq_true h]; rfl)]
  rfl
theorem memB_false {f : Nat → Int} {m : Nat} {x : Int} (h : ∀ i, i < m → f i ≠ x) : memB f m x = false := by
  unfold memB
  rw [allB_true (fun i hi => by rw [decide_eq_false (h i hi)]; rfl)]
  rfl
theorem cisnan_any (x : Int) (w : World) : Calls Tryz.prog 133 #[.int .i64 x] w fun e w' => e = .returned (.bool false) ∧ w' = w := by
  go_enter Tryz.func133, Tryz.ntmps133
  go_wp2
  go_ret
  exact ⟨by simp, rfl⟩
theorem sisnan_any (x : Int) (w : World) : Calls Tryz.prog 105 #[.int .i64 x] w fun e w' => e = .returned (.bool false) ∧ w' = w := by
  go_enter Tryz.func105, Tryz.ntmps105
  go_wp2
  go_ret
  exact ⟨by simp, rfl⟩
theorem cless_any (x y : Int) (w : World) : Calls Tryz.prog 104 #[.int .i64 x, .int .i64 y] w fun e w' => e = .returned (.bool (decide (x < y))) ∧ w' = w := by
  go_enter Tryz.func104, Tryz.ntmps104
  go_wp2_with (go_at_call 133; refine (cisnan_any _ _).mono ?_; rintro e w' ⟨rfl, rfl⟩)
  go_ret
  exact ⟨rfl, rfl⟩
theorem bsearch_any (D : Option Addr) (m d : Nat) (f : Nat → Int) (x : Int) (w : World) (hm : m ≤ 1000000) (hL : Lin w D m f) (hs : ∀ i j, i ≤ j → j < m → f i ≤ f j) :
    Calls Tryz.prog 66 #[.slice D m d, .int .i64 x] w fun e w' => (∃ p : Int, e = .returned (.tuple #[.int .i64 p, .bool (memB f m x)])) ∧ ∃ q, w' = w.drewN q := by
  have HL := Lib.hid hL
  have S := Lib.hid hs
  clear hL hs
  go_enter Tryz.func66, Tryz.ntmps66
  go_wp2
  go_loopg [7, 8] m (fun g s7 s8 wr => ∃ lo hi q : Nat, s7 = .int .i64 lo ∧ s8 = .int .i64 hi ∧ lo ≤ hi ∧ hi ≤ m ∧ hi - lo ≤ g ∧ wr = w.drewN q ∧ (∀ t, t < lo → f t < x) ∧ (∀ t, hi ≤ t → t < m → x ≤ f t))
  case atStart => exact ⟨0, m, 0, rfl, rfl, Nat.zero_le _, Nat.le_refl _, by omega, rfl, fun t ht => absurd ht (Nat.not_lt_zero _), fun t h1 h2 => by omega⟩
  case round =>
    obtain ⟨lo, hi, q, rfl, rfl, hlh, hin, hg, rfl, h1, h2⟩ := hrel
    have I := Lib.hid (And.intro h1 h2)
    clear h1 h2
    by_cases hlt : lo < hi
    · obtain ⟨b, off, rfl, hb, hc⟩ := HL.out (by omega)
      have cm : w.cell? ⟨b, off + (lo + hi) / 2, none⟩ = some (.int .i64 (f ((lo + hi) / 2))) := hc _ (by omega)
      clear hc
      generalize hy : f ((lo + hi) / 2) = y at cm
      have Y := Lib.hid hy
      clear hy
      by_cases hyx : y < x
      · go_wp2_with (first | (go_at_call 104; refine (cless_any _ _ _).mono ?_; rintro e w' ⟨rfl, rfl⟩) | (go_at_call 105; refine (sisnan_any _ _).mono ?_; rintro e w' ⟨rfl, rfl⟩))
        go_roundg (hi - ((lo + hi) / 2 + 1))
        case measure => omega
        case rel =>
          refine ⟨(lo + hi) / 2 + 1, hi, _, by rw [show ((lo : Int) + (hi : Int)) / 2 + 1 = (((lo + hi) / 2 + 1 : Nat) : Int) by omega], rfl, by omega, hin, Nat.le_refl _, rfl, fun t ht => ?_, I.out.2⟩
          have := S.out t ((lo + hi) / 2) (by omega) (by omega)
          rw [Y.out] at this
          omega
      · go_wp2_with (first | (go_at_call 104; refine (cless_any _ _ _).mono ?_; rintro e w' ⟨rfl, rfl⟩) | (go_at_call 105; refine (sisnan_any _ _).mono ?_; rintro e w' ⟨rfl, rfl⟩))
        go_roundg ((lo + hi) / 2 - lo)
        case measure => omega
        case rel =>
          refine ⟨lo, (lo + hi) / 2, _, rfl, by rw [show ((lo : Int) + (hi : Int)) / 2 = (((lo + hi) / 2 : Nat) : Int) by omega], by omega, by omega, Nat.le_refl _, rfl, I.out.1, fun t ht htn => ?_⟩
          have := S.out ((lo + hi) / 2) t ht htn
          rw [Y.out] at this
          omega
    · have : hi = lo := by omega
      subst this
      by_cases hn : hi < m
      · obtain ⟨b, off, rfl, hb, hc⟩ := HL.out (by omega)
        have cl : w.cell? ⟨b, off + hi, none⟩ = some (.int .i64 (f hi)) := hc _ (by omega)
        clear hc
        have E := Lib.hid (show memB f m x = decide (f hi = x) from by
          by_cases e : f hi = x
          · rw [decide_eq_true e]; exact memB_true hn e
          · rw [decide_eq_false e]
            refine memB_false fun t ht => ?_
            rcases Nat.lt_or_ge t hi with h | h
            · have := I.out.1 t h; omega
            · have h3 := I.out.2 hi (Nat.le_refl _) hn
              have h4 := S.out hi t h ht
              omega)
        generalize f hi = y at cl E
        by_cases hyx : y = x
        · go_wp2_with (first | (go_at_call 104; refine (cless_any _ _ _).mono ?_; rintro e w' ⟨rfl, rfl⟩) | (go_at_call 105; refine (sisnan_any _ _).mono ?_; rintro e w' ⟨rfl, rfl⟩))
          go_ret2
          refine ⟨⟨hi, ?_⟩, _, rfl⟩
          rw [E.out, decide_eq_true hyx]
          first | rfl | simp [*]
        · go_wp2_with (first | (go_at_call 104; refine (cless_any _ _ _).mono ?_; rintro e w' ⟨rfl, rfl⟩) | (go_at_call 105; refine (sisnan_any _ _).mono ?_; rintro e w' ⟨rfl, rfl⟩))
          go_ret2
          refine ⟨⟨hi, ?_⟩, _, rfl⟩
          rw [E.out, decide_eq_false hyx]
          first | rfl | simp [*]
      · have E := Lib.hid (show memB f m x = false from memB_false fun t ht => by
          have := I.out.1 t (by omega)
          omega)
        go_wp2_with (first | (go_at_call 104; refine (cless_any _ _ _).mono ?_; rintro e w' ⟨rfl, rfl⟩) | (go_at_call 105; refine (sisnan_any _ _).mono ?_; rintro e w' ⟨rfl, rfl⟩))
        go_ret2
        refine ⟨⟨hi, ?_⟩, _, rfl⟩
        rw [E.out]
        first | rfl | simp [*]
end Go.Proofs.YtokbejkkpekpnaaGreatDoor
