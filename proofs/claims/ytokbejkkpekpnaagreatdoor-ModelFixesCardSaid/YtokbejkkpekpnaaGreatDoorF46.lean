/- The reference's Fixed and Absorbing: models that are built by append out of states of the given one. -/
import Derived.Test.YtokbejkkpekpnaaGreatDoorF45

set_option maxRecDepth 100000
set_option maxHeartbeats 40000000
namespace Go.Proofs.YtokbejkkpekpnaaGreatDoor
open Go.RowKit
def RetLo (lo n : Nat) (tg : Nat → StV) (w : World) (e : Ending) (w' : World) : Prop := ∃ A c st, e = .returned (.agg #[.slice A n c]) ∧ LstP (fun b => b < lo ∨ w.heap.size ≤ b) w' A n st ∧ (∀ i, i < n → StL (st i) (tg i)) ∧ Below w.heap.size w w'
theorem rin_any (D : Option Addr) (k q : Nat) (f : Nat → Int) (x : Int) (w : World) (hk : k ≤ 1000000) (hD : Lin w D k f) :
    Calls Tryz.prog 101 #[.slice D k q, .int .i64 x] w fun e w' => e = .returned (.bool (memB f k x)) ∧ Below w.heap.size w w' := by
  have HD := Lib.hid hD
  clear hD
  go_enter Tryz.func101, Tryz.ntmps101
  go_wp2_with fail
  go_loopw [9] (fun i wr => ∃ j : Nat, Hid (j ≤ k) ∧ i = .int .i64 (j : Int) ∧ Hid (∀ t, t < j → f t ≠ x) ∧ Hid (Below w.heap.size w wr)) (fun i _ => k - (intOf i).toNat)
  case atStart => exact ⟨0, Nat.zero_le _, rfl, Lib.hid (fun i hi => absurd hi (by omega)), Lib.hid (Below.refl _ _)⟩
  case round =>
    obtain ⟨j, hj, rfl, hv, hB⟩ := hrel
    by_cases hlt : j < k
    · obtain ⟨b, off, rfl, -, hc0⟩ := (HD.out.keep hB.out).at hlt
      have hlt' : (j : Int) < (k : Int) := by omega
      generalize hy : f j = y at hc0
      have HY := Lib.hid hy
      clear hy
      by_cases hxy : y = x
      · have HE : Hid (memB f k x = true) := Lib.hid (memB_true hlt (by rw [HY.out]; exact hxy))
        go_wp2_with fail
        go_ret
        exact ⟨by rw [HE.out]; rfl, hB.out⟩
      · have HV : Hid (∀ t, t < j + 1 → f t ≠ x) := Lib.hid fun t ht => by
          by_cases e : t = j
          · rw [e, HY.out]; exact hxy
          · exact hv.out t (by omega)
        clear hv
        go_wp2_with fail
        exact ⟨⟨j + 1, Lib.hid (by omega), by rw [show ((j + 1 : Nat) : Int) = (j : Int) + 1 from by omega], HV, hB⟩, by simp [intOf]; omega⟩
    · have hje : j = k := by have := hj.out; omega
      have hlt' : ¬ (j : Int) < (k : Int) := by omega
      have HE : Hid (memB f k x = false) := Lib.hid (memB_false fun t ht => hv.out t (by omega))
      clear hje hv
      go_wp2_with fail
      go_ret
      exact ⟨by rw [HE.out]; rfl, hB.out⟩
def RetLoop (s : Int) (w : World) (e : Ending) (w' : World) : Prop := ∃ g, e = .returned (.agg #[.int .i64 0, .int .i64 1, .slice (some ⟨g, 0, none⟩) 1 1]) ∧ w.heap.size ≤ g ∧ Bw w' g 74 (.int .i64 s) (.int .i64 1) (.int .i64 1) ∧ Below w.heap.size w w'
theorem rloop_any (s : Int) (w : World) : Calls Tryz.prog 102 #[.int .i64 s] w (RetLoop s w) := by
  go_enter Tryz.func102, Tryz.ntmps102
  go_upto_region 1 with fail
  generalize hZ : World.alloc _ _ = Z
  have HZ : Hid (Below w.heap.size w Z) := by rw [← hZ]; exact Lib.hid (below_alloc _ _)
  have b3 : Bw Z w.heap.size 65 (.int .i64 0) (.int .i64 0) (.slice none 0 0) := by rw [← hZ]; exact Bw.new _ _ _ _ _
  have B3 := Lib.hid b3
  obtain ⟨r0, r1, r2⟩ := b3.out
  obtain ⟨f0, f1, f2⟩ := b3.frz
  have hlt := b3.lt
  have HG2 := Lib.hid hlt
  clear hZ b3
  obtain ⟨g, hg⟩ : ∃ g, w.heap.size = g := ⟨_, rfl⟩
  have HG : Hid (w.heap.size ≤ g) := Lib.hid (Nat.le_of_eq hg)
  rw [hg] at B3 r0 r1 r2 f0 f1 f2 hlt HG2 ⊢
  clear hg
  go_wp2_with fail
  generalize hY : World.alloc _ _ = Y
  have HY : Hid (Bw Y g 65 (.int .i64 0) (.int .i64 1) (.slice (some ⟨Z.heap.size, 0, none⟩) 1 1) ∧ Bw Y Z.heap.size 74 (.int .i64 s) (.int .i64 1) (.int .i64 1) ∧ Below w.heap.size w Y) := by
    have hb := B3.out.put (.int .i64 0) (.int .i64 1) (.slice (some ⟨Z.heap.size, 0, none⟩) 1 1)
    have hbe := below_put HZ.out (g := g) HG.out 0 1 2 (.int .i64 0) (.int .i64 1) (.slice (some ⟨Z.heap.size, 0, none⟩) 1 1)
    have hs := size_cells (w := Z) (g := g) (i := 0) (j := 1) (k := 2) (a := .int .i64 0) (b := .int .i64 1) (c := .slice (some ⟨Z.heap.size, 0, none⟩) 1 1)
    generalize ((Z.setCell ⟨g, 0, none⟩ (.int .i64 0)).setCell ⟨g, 1, none⟩ (.int .i64 1)).setCell ⟨g, 2, none⟩ (.slice (some ⟨Z.heap.size, 0, none⟩) 1 1) = V at hY hb hbe hs
    have h2 := Bw.new V 74 (.int .i64 s) (.int .i64 1) (.int .i64 1)
    rw [hs, hY] at h2
    have h1 := hb.keep (below_alloc V (.cells #[.int .i64 s, .int .i64 1, .int .i64 1] 74))
    rw [hY] at h1
    have h3 := hbe.trans ((below_alloc V (.cells #[.int .i64 s, .int .i64 1, .int .i64 1] 74)).mono hbe.size)
    rw [hY] at h3
    exact Lib.hid ⟨h1, h2, h3⟩
  obtain ⟨c0, c1, c2⟩ := HY.out.1.out
  clear hY r0 r1 r2 f0 f1 f2 hlt B3
  exact bodyPost_ret (v := .agg #[.int .i64 0, .int .i64 1, .slice (some ⟨Z.heap.size, 0, none⟩) 1 1]) (by simp [results, Tryz.results102, go_sem, c0, c1, c2]) rfl ⟨_, rfl, HZ.out.size, HY.out.2.1, HY.out.2.2⟩
theorem StP.one {P : Nat → Prop} {w : World} {s : StV} (h : StP P w s) {fk b off : Nat} (hA : s.A = some ⟨b, off, none⟩) (hk : fk < s.n) (e : Nat) : StP P w ⟨s.ow, s.mrk, some ⟨b, off + fk * 3, none⟩, 1, e, fun _ => s.ch fk⟩ := by
  obtain ⟨b', off', e1, hb, hp, hc⟩ := h.1 (by omega)
  rw [hA] at e1
  obtain ⟨rfl, rfl⟩ : b = b' ∧ off = off' := by
    injection e1 with e1
    injection e1 with h1 h2 h3
    exact ⟨h1, h2⟩
  refine ⟨fun _ => ⟨b, off + fk * 3, rfl, hb, hp, fun i hi => ?_⟩, fun j hj => h.2 fk hk⟩
  obtain rfl : i = 0 := by have : i < 1 := hi; omega
  exact hc fk hk
theorem rfixed_any (A B : Option Addr) (n c m d lo : Nat) (st tg : Nat → StV) (f : Nat → Int) (pl : Int) (w : World) (hn : n ≤ 60) (hlo : lo ≤ w.heap.size) (hA : LstP (fun b => b < lo) w A n st) (hB : Lin w B m f) (hm : n ≤ m) (hf : ∀ i, i < n → 0 ≤ f i ∧ (f i).toNat < (st i).n ∧ (st i).n ≤ 1000) (hcap : ∀ i, i < n → (st i).n ≤ (st i).c)
    (h1 : ∀ i, i < n → (pl < 0 ∨ (st i).ow = pl) → StL (fxS (st i) (f i).toNat) (tg i)) (h2 : ∀ i, i < n → ¬ (pl < 0 ∨ (st i).ow = pl) → StL (st i) (tg i)) :
    Calls Tryz.prog 59 #[.agg #[.slice A n c], .slice B m d, .int .i64 pl] w (RetLo lo n tg w) := by
  have HN := Lib.hid hn
  have HLO := Lib.hid hlo
  have HA : Hid (∀ wx, Below w.heap.size w wx → LstP (fun b => b < lo) wx A n st) := Lib.hid fun wx hx => hA.stay hx.size fun b hlt _ => hx.block b hlt
  have HBL := Lib.hid hB
  have HM := Lib.hid hm
  have HF1 := Lib.hid hf
  have HCP := Lib.hid hcap
  have HH1 := Lib.hid h1
  have HH2 := Lib.hid h2
  clear hn hlo hA hB hm hf hcap h1 h2
  go_enter Tryz.func59, Tryz.ntmps59
  go_upto_region 2 with fail
  generalize hZ : World.alloc _ _ = Z
  obtain ⟨hZB, hb1, hb2, hb3⟩ := alloc_3 hZ
  have hZs : Z.heap.size = w.heap.size + 2 + 1 := by rw [← hZ]; simp
  have HZS := Lib.hid hZs
  have HZB := Lib.hid hZB
  have HB2 := Lib.hid hb2
  have HB3 := Lib.hid hb3
  have x0 := hb1.out
  clear hZ hZs hZB hb1 hb2 hb3
  go_wp2_with fail
  clear x0
  obtain ⟨g3, hg3⟩ : ∃ g3, w.heap.size + 2 = g3 := ⟨_, rfl⟩
  have HG3 := Lib.hid hg3
  rw [hg3] at HZS HB3 ⊢
  clear hg3
  go_loopw [14] (fun i wr => ∃ k : Nat, Hid (k ≤ n) ∧ i = .int .i64 (k : Int) ∧ (∃ v, Hid (B1 wr g3 24 v ∧ ∃ st2, OwnS (fun b => b < lo ∨ Z.heap.size ≤ b) Z.heap.size wr v k st2 ∧ ∀ i, i < k → StL (st2 i) (tg i))) ∧ Hid (Below g3 Z wr)) (fun i _ => n - (intOf i).toNat)
  case atStart => exact ⟨0, Nat.zero_le _, rfl, ⟨_, Lib.hid ⟨HB3.out, tg, OwnS.nil _ _ _ _, fun i hi => absurd hi (by omega)⟩⟩, Lib.hid (Below.refl _ _)⟩
  case round =>
    obtain ⟨k, hk, rfl, ⟨v0, hO⟩, hB⟩ := hrel
    have HWB : Hid (Below w.heap.size w wr) := Lib.hid (HZB.out.trans (hB.out.mono (by have := HG3.out; omega)))
    by_cases hlt : k < n
    · have hlt' : (k : Int) < (n : Int) := by omega
      have hn1 : n ≤ 60 := HN.out
      obtain ⟨b, off, hAe, hS3, -⟩ := (HA.out wr HWB.out).to.at hlt
      have HSP : Hid (∀ wx, Below w.heap.size w wx → StP (fun b => b < lo) wx (st k)) := Lib.hid fun wx hx => (HA.out wx hx).2 k hlt
      obtain ⟨b2, off2, hBe, hz⟩ := (HBL.out.keep HWB.out).at (i := k) (by have := HM.out; omega)
      obtain ⟨q1, q2, q3⟩ := HF1.out k hlt
      have q4 := HCP.out k hlt
      have HL1 := Lib.hid (HH1.out k hlt)
      have HL2 := Lib.hid (HH2.out k hlt)
      obtain ⟨fk, hfk⟩ := Int.eq_ofNat_of_zero_le q1
      have hfn : (f k).toNat = fk := by rw [hfk]; rfl
      rw [hfn] at q2 HL1
      rw [hfk] at hz
      generalize st k = sk at hS3 HSP q2 q3 q4 HL1 HL2
      obtain ⟨ow, mrk, D, m1, d1, ch⟩ := sk
      dsimp only at hS3 q2 q3 q4 HL1 HL2
      obtain ⟨b3, off3, e3, -⟩ := (HSP.out w (Below.refl _ _)).1 (show 0 < m1 by omega)
      dsimp only at e3
      subst e3
      have HSUB : Hid (∀ wx, Below wr.heap.size wr wx → StP (fun b => b < lo ∨ wr.heap.size ≤ b) wx ⟨ow, mrk, some ⟨b3, off3 + fk * 3, none⟩, 1, d1 - fk, fun _ => ch fk⟩) := Lib.hid fun wx hx => ((HSP.out wx (HWB.out.trans (hx.mono HWB.out.size))).one (fk := fk) rfl q2 (d1 - fk)).imp fun b _ hp => .inl hp
      have HSUB0 : Hid (∀ wx, Below wr.heap.size wr wx → StP (fun b => b < lo ∨ wr.heap.size ≤ b) wx ⟨ow, mrk, some ⟨b3, off3, none⟩, m1, d1, ch⟩) := Lib.hid fun wx hx => (HSP.out wx (HWB.out.trans (hx.mono HWB.out.size))).imp fun b _ hp => .inl hp
      obtain ⟨-, s0, s1, s2⟩ := hS3
      have HZ0 := Lib.hid hz
      subst hAe
      subst hBe
      have g1 : (k : Int) < (m : Int) := by have := HM.out; omega
      have g2 : (fk : Int) + 1 ≤ (d1 : Int) := by omega
      have g2' : ((fk : Int) + 1).toNat = fk + 1 := by omega
      have g3' : fk ≤ 1000 := by omega
      have g5 : IntKind.i64.wrap ((fk : Int) + 1) = (fk : Int) + 1 := by rw [IntKind.wrap_i64]; omega
      have g6 : ¬ d1 = fk := by omega
      clear q1 q2 q3 q4 hfk hfn hz HSP
      go_upto_region 5 with fail
      clear s0 s1 s2
      generalize hZ1 : wr.alloc _ = Z1
      have HR1 : Hid (Below wr.heap.size wr Z1) := by rw [← hZ1]; exact Lib.hid (below_alloc _ _)
      have HBX : Hid (Bw Z1 wr.heap.size 53 (.int .i64 ow) (.int .i64 mrk) (.slice (some ⟨b3, off3, none⟩) m1 d1)) := by rw [← hZ1]; exact Lib.hid (Bw.new _ _ _ _ _)
      have HZ1 := Lib.hid (HZ0.out.keep HR1.out)
      have HGE0 : Hid (wr.heap.size ≤ wr.heap.size) := Lib.hid (Nat.le_refl _)
      clear hZ1 HZ0
      obtain ⟨gx, hgx⟩ : ∃ gx, wr.heap.size = gx := ⟨_, rfl⟩
      have HGE : Hid (wr.heap.size ≤ gx) := Lib.hid (Nat.le_of_eq hgx)
      rw [hgx] at HBX ⊢
      clear hgx HGE0
      obtain ⟨x0, x1, x2⟩ := HBX.out.out
      by_cases hpp : pl < 0 ∨ ow = pl
      · have HPP := Lib.hid hpp
        rcases (by omega : pl < 0 ∨ (¬ pl < 0 ∧ ow = pl)) with hp | ⟨hp, hp2⟩
        all_goals (
          clear hpp
          go_upto_region 6 with fail
          first | clear x0 x1 x2 hp hp2 | clear x0 x1 x2 hp
          refine wp_region_flow_store 13 [27, 28, 29, 30, 31, 32, 33, 34, 35, 36, 37, 38, 39] (fun i => 27 + i) (Below Z1.heap.size Z1) (fun w9 => Bw w9 gx 53 (.int .i64 ow) (.int .i64 mrk) (.slice (some ⟨b3, off3 + fk * 3, none⟩) 1 (d1 - fk)) ∧ Below gx Z1 w9) (Sml [.val (.pointer (some ⟨gx, 2, none⟩)), .val (.slice (some ⟨b3, off3, none⟩) m1 d1), .val (.slice (some ⟨b2, off2, none⟩) m d), .val (.int .i64 (k : Int)), .val (.pointer (some ⟨b2, off2 + k, none⟩)), .val (.int .i64 (fk : Int)), .val (.slice (some ⟨b2, off2, none⟩) m d), .val (.int .i64 (k : Int)), .val (.pointer (some ⟨b2, off2 + k, none⟩)), .val (.int .i64 (fk : Int)), .val (.int .i64 ((fk : Int) + 1)), .val (.slice (some ⟨b3, off3 + fk * 3, none⟩) 1 (d1 - fk)), .val (.pointer (some ⟨gx, 2, none⟩))]) (by kernel_rfl) (by kernel_rfl) (by kernel_rfl) (by kernel_rfl) (by kernel_rfl) (fun i j _ _ h => Nat.add_left_cancel (show 27 + i = 27 + j from h)) (by decide) (fun wx wy (h : Below Z1.heap.size Z1 wx) hb => h.trans (hb.mono h.size)) Sml.keep ?_ ?_ ?_ ?_
          · exact Below.drew (Below.refl _ _)
          · intro i v wx o T' K hi ho hF hdep hin hout hK
            have HF := Lib.hid hF
            have HD := Lib.hid hdep
            clear hF hdep
            rcases (by omega : i = 0 ∨ i = 1 ∨ i = 2 ∨ i = 3 ∨ i = 4 ∨ i = 5 ∨ i = 6 ∨ i = 7 ∨ i = 8 ∨ i = 9 ∨ i = 10 ∨ i = 11 ∨ i = 12) with rfl | rfl | rfl | rfl | rfl | rfl | rfl | rfl | rfl | rfl | rfl | rfl | rfl
            · obtain rfl := Option.some.inj ho
              have sl9 : T'[9]? = some (.pointer (some ⟨gx, 0, none⟩)) := (hout 9 (by decide)).trans rfl
              clear hin hout ho hi
              go_simp
              exact hK _ _ (Below.refl _ _) rfl
            · obtain rfl := Option.some.inj ho
              have q27 := hin 27 (by decide)
              have e1 : v 27 = (.pointer (some ⟨gx, 2, none⟩)) := HD.out ⟨0, .data⟩ (by simp) rfl
              rw [e1] at q27
              obtain ⟨k0, k1, k2⟩ := (HBX.out.keep HF.out).out
              have hP := (rfl : Value.slice (some ⟨b3, off3, none⟩) m1 d1 = .slice (some ⟨b3, off3, none⟩) m1 d1)
              clear hin hout ho hi
              go_simp
              exact hK _ _ (Below.refl _ _) hP
            · obtain rfl := Option.some.inj ho
              have sl1 : T'[1]? = some (.slice (some ⟨b2, off2, none⟩) m d) := (hout 1 (by decide)).trans rfl
              clear hin hout ho hi
              go_simp
              exact hK _ _ (Below.refl _ _) rfl
            · obtain rfl := Option.some.inj ho
              have sl8 : T'[8]? = some (.int .i64 (k : Int)) := (hout 8 (by decide)).trans rfl
              clear hin hout ho hi
              go_simp
              exact hK _ _ (Below.refl _ _) rfl
            · obtain rfl := Option.some.inj ho
              have q29 := hin 29 (by decide)
              have q30 := hin 30 (by decide)
              have e0 : v 29 = (.slice (some ⟨b2, off2, none⟩) m d) := HD.out ⟨2, .data⟩ (by simp) rfl
              rw [e0] at q29
              have e1 : v 30 = (.int .i64 (k : Int)) := HD.out ⟨3, .data⟩ (by simp) rfl
              rw [e1] at q30
              clear hin hout ho hi
              go_simp
              exact hK _ _ (Below.refl _ _) rfl
            · obtain rfl := Option.some.inj ho
              have q31 := hin 31 (by decide)
              have e1 : v 31 = (.pointer (some ⟨b2, off2 + k, none⟩)) := HD.out ⟨4, .data⟩ (by simp) rfl
              rw [e1] at q31
              obtain ⟨-, k0⟩ := HZ1.out.keep HF.out
              have hP := (rfl : Value.int .i64 (fk : Int) = .int .i64 (fk : Int))
              clear hin hout ho hi
              go_simp
              exact hK _ _ (Below.refl _ _) hP
            · obtain rfl := Option.some.inj ho
              have sl1 : T'[1]? = some (.slice (some ⟨b2, off2, none⟩) m d) := (hout 1 (by decide)).trans rfl
              clear hin hout ho hi
              go_simp
              exact hK _ _ (Below.refl _ _) rfl
            · obtain rfl := Option.some.inj ho
              have sl8 : T'[8]? = some (.int .i64 (k : Int)) := (hout 8 (by decide)).trans rfl
              clear hin hout ho hi
              go_simp
              exact hK _ _ (Below.refl _ _) rfl
            · obtain rfl := Option.some.inj ho
              have q33 := hin 33 (by decide)
              have q34 := hin 34 (by decide)
              have e0 : v 33 = (.slice (some ⟨b2, off2, none⟩) m d) := HD.out ⟨6, .data⟩ (by simp) rfl
              rw [e0] at q33
              have e1 : v 34 = (.int .i64 (k : Int)) := HD.out ⟨7, .data⟩ (by simp) rfl
              rw [e1] at q34
              clear hin hout ho hi
              go_simp
              exact hK _ _ (Below.refl _ _) rfl
            · obtain rfl := Option.some.inj ho
              have q35 := hin 35 (by decide)
              have e1 : v 35 = (.pointer (some ⟨b2, off2 + k, none⟩)) := HD.out ⟨8, .data⟩ (by simp) rfl
              rw [e1] at q35
              obtain ⟨-, k0⟩ := HZ1.out.keep HF.out
              have hP := (rfl : Value.int .i64 (fk : Int) = .int .i64 (fk : Int))
              clear hin hout ho hi
              go_simp
              exact hK _ _ (Below.refl _ _) hP
            · obtain rfl := Option.some.inj ho
              have q36 := hin 36 (by decide)
              have e0 : v 36 = (.int .i64 (fk : Int)) := HD.out ⟨9, .data⟩ (by simp) rfl
              rw [e0] at q36
              clear hin hout ho hi
              go_simp
              exact hK _ _ (Below.refl _ _) rfl
            · obtain rfl := Option.some.inj ho
              have q28 := hin 28 (by decide)
              have q32 := hin 32 (by decide)
              have q37 := hin 37 (by decide)
              have e0 : v 28 = (.slice (some ⟨b3, off3, none⟩) m1 d1) := HD.out ⟨1, .data⟩ (by simp) rfl
              rw [e0] at q28
              have e1 : v 32 = (.int .i64 (fk : Int)) := HD.out ⟨5, .data⟩ (by simp) rfl
              rw [e1] at q32
              have e2 : v 37 = (.int .i64 ((fk : Int) + 1)) := HD.out ⟨10, .data⟩ (by simp) rfl
              rw [e2] at q37
              clear hin hout ho hi
              go_simp
              exact hK _ _ (Below.refl _ _) rfl
            · obtain rfl := Option.some.inj ho
              have sl9 : T'[9]? = some (.pointer (some ⟨gx, 0, none⟩)) := (hout 9 (by decide)).trans rfl
              clear hin hout ho hi
              go_simp
              exact hK _ _ (Below.refl _ _) rfl
          · intro v wx o T' K ho hF hall hin hout hK
            obtain rfl := Option.some.inj ho
            have q38 := hin 38 (by decide)
            have h0 : v 38 = (.slice (some ⟨b3, off3 + fk * 3, none⟩) 1 (d1 - fk)) := hall 11 (by decide)
            have q39 := hin 39 (by decide)
            have h8 : v 39 = (.pointer (some ⟨gx, 2, none⟩)) := hall 12 (by decide)
            rw [h8] at q39
            clear hin hout hall ho
            rw [h0] at q38
            have HE := Lib.hid (And.intro ((HBX.out.keep hF).put2 (.slice (some ⟨b3, off3 + fk * 3, none⟩) 1 (d1 - fk))) ((hF.mono (Nat.le_of_lt HBX.out.lt)).setCell (p := ⟨gx, 2, none⟩) (Nat.le_refl _) (.slice (some ⟨b3, off3 + fk * 3, none⟩) 1 (d1 - fk))))
            obtain ⟨k0, k1, k2⟩ := (HBX.out.keep hF).out
            obtain ⟨f0, f1, f2⟩ := (HBX.out.keep hF).frz
            clear h0 hF h8
            go_simp
            exact hK _ HE.out
          · intro v wx hE
            obtain ⟨hbx, hbl⟩ := hE
            have hwc : Below wr.heap.size wr wx := HR1.out.trans (hbl.mono HGE.out)
            simp only [over, List.setIfInBounds_toArray, List.set_cons_zero, List.set_cons_succ]
            generalize v 27 = v27
            generalize v 28 = v28
            generalize v 29 = v29
            generalize v 30 = v30
            generalize v 31 = v31
            generalize v 32 = v32
            generalize v 33 = v33
            generalize v 34 = v34
            generalize v 35 = v35
            generalize v 36 = v36
            generalize v 37 = v37
            generalize v 38 = v38
            generalize v 39 = v39
            obtain ⟨hb1, st2, hos, hl2⟩ := hO.out
            have hb1r := hb1.keep hwc
            have hosr := hos.keep hwc
            have hbel : Below wx.heap.size wx (wx.alloc (.cells #[.int .i64 ow, .int .i64 mrk, .slice (some ⟨b3, off3 + fk * 3, none⟩) 1 (d1 - fk)] 53)) := below_alloc _ _
            have hnew := Bw.new wx 53 (.int .i64 ow) (.int .i64 mrk) (.slice (some ⟨b3, off3 + fk * 3, none⟩) 1 (d1 - fk))
            obtain ⟨n0, n1, n2⟩ := hnew.out
            have hown0 := hosr.lt
            have hown1 := hos.lt
            have hlo2 := HLO.out
            have hzs := HZS.out
            have hg2 := HG3.out
            have hwrs := hB.out.size
            have hzle : Z.heap.size ≤ wx.heap.size := Nat.le_trans hB.out.size hwc.size
            obtain ⟨v1, W1, hr, ho1, hg1⟩ := run_pushS (hosr.keep hbel) (by omega) (Nat.le_trans hzle hbel.size) 22 wx.heap.size 0 1 ⟨ow, mrk, some ⟨b3, off3 + fk * 3, none⟩, 1, d1 - fk, fun _ => ch fk⟩ n0 n1 n2
              ((StP.stay (HSUB.out wx hwc) hbel.size fun b hlt _ => hbel.block b hlt).imp fun b _ hp => ⟨fun e => by have h1 := hown1 b e.symm; rcases hp with hp | hp <;> omega, by rcases hp with hp | hp <;> omega⟩)
            obtain ⟨A6, c6, e6, -⟩ := own_rows ho1.1
            subst e6
            have hg3 := hb1r.keep hbel
            have hg3' : B1 W1 g3 24 v0 := hg3.block (hg1.block g3 hg3.lt fun e => by have h1 := (hown0 g3 e.symm).1; omega)
            have HP := Lib.hid (hg3'.put (.slice A6 (k + 1) c6))
            have HS2' := Lib.hid (ho1.stay (w' := W1.setCell ⟨g3, 0, none⟩ (.slice A6 (k + 1) c6)) (by simp [World.setCell]) fun b _ hp => Below.heap_setCell _ ⟨g3, 0, none⟩ _ b (by show b ≠ g3; rcases hp with hp | hp | hp <;> omega))
            have HB5 : Hid (Below g3 Z (W1.setCell ⟨g3, 0, none⟩ (.slice A6 (k + 1) c6))) := by
              have h1 := hB.out.trans (hwc.mono (by have := hb1.lt; omega))
              have h2 := h1.trans (hbel.mono (by have := hb1r.lt; omega))
              have h3 := below_grown h2 hg1 (fun b hb => by have h5 := (hown0 b hb).1; omega) (by omega)
              exact Lib.hid (h3.setCell (p := ⟨g3, 0, none⟩) (Nat.le_refl _) _)
            have HL5 : Hid (∀ i, i < k + 1 → StL ((fun i => if i = k then (⟨ow, mrk, some ⟨b3, off3 + fk * 3, none⟩, 1, d1 - fk, fun _ => ch fk⟩ : StV) else st2 i) i) (tg i)) := Lib.hid fun i hi => by
              dsimp only
              by_cases e : i = k
              · rw [if_pos e, e]; exact (HL1.out HPP.out)
              · rw [if_neg e]; exact hl2 i (by omega)
            obtain ⟨x0, x1, x2⟩ := hbx.out
            have b0 := hb1r.out
            have f0 := hg3'.frz
            have b1 := hg3'.out
            have hl3 := hg3'.lt
            have hl4 := hb1r.lt
            clear hbx hwc hb1 hos hl2 hb1r hosr hbel hnew n0 n1 n2 hown0 hown1 hlo2 hzs hg2 hwrs hzle hg3 hg3' ho1 hg1 hO
            go_wp2_with (at_builtin; refine wpList_app rfl _ _ 22 rfl _ _ _ rfl rfl hr ?_)
            exact ⟨⟨k + 1, Lib.hid (by omega), by rw [show ((k + 1 : Nat) : Int) = (k : Int) + 1 from by omega], ⟨_, Lib.hid ⟨HP.out, _, HS2'.out, HL5.out⟩⟩, HB5⟩, by simp [intOf]; omega⟩)
      · have HPP := Lib.hid hpp
        have hp : ¬ pl < 0 := fun h => hpp (.inl h)
        have hp2 : ¬ ow = pl := fun h => hpp (.inr h)
        clear hpp
        go_upto_region 7 with fail
        clear x0 x1 x2 hp hp2
        have hwc := HR1.out
        have hbx := HBX.out
        obtain ⟨hb1, st2, hos, hl2⟩ := hO.out
        have hb1r := hb1.keep hwc
        have hosr := hos.keep hwc
        have hbel : Below Z1.heap.size Z1 (Z1.alloc (.cells #[.int .i64 ow, .int .i64 mrk, .slice (some ⟨b3, off3, none⟩) m1 d1] 53)) := below_alloc _ _
        have hnew := Bw.new Z1 53 (.int .i64 ow) (.int .i64 mrk) (.slice (some ⟨b3, off3, none⟩) m1 d1)
        obtain ⟨n0, n1, n2⟩ := hnew.out
        have hown0 := hosr.lt
        have hown1 := hos.lt
        have hlo2 := HLO.out
        have hzs := HZS.out
        have hg2 := HG3.out
        have hwrs := hB.out.size
        have hzle : Z.heap.size ≤ Z1.heap.size := Nat.le_trans hB.out.size hwc.size
        obtain ⟨v1, W1, hr, ho1, hg1⟩ := run_pushS (hosr.keep hbel) (by omega) (Nat.le_trans hzle hbel.size) 22 Z1.heap.size 0 1 ⟨ow, mrk, some ⟨b3, off3, none⟩, m1, d1, ch⟩ n0 n1 n2
          ((StP.stay (HSUB0.out Z1 hwc) hbel.size fun b hlt _ => hbel.block b hlt).imp fun b _ hp => ⟨fun e => by have h1 := hown1 b e.symm; rcases hp with hp | hp <;> omega, by rcases hp with hp | hp <;> omega⟩)
        obtain ⟨A6, c6, e6, -⟩ := own_rows ho1.1
        subst e6
        have hg3 := hb1r.keep hbel
        have hg3' : B1 W1 g3 24 v0 := hg3.block (hg1.block g3 hg3.lt fun e => by have h1 := (hown0 g3 e.symm).1; omega)
        have HP := Lib.hid (hg3'.put (.slice A6 (k + 1) c6))
        have HS2' := Lib.hid (ho1.stay (w' := W1.setCell ⟨g3, 0, none⟩ (.slice A6 (k + 1) c6)) (by simp [World.setCell]) fun b _ hp => Below.heap_setCell _ ⟨g3, 0, none⟩ _ b (by show b ≠ g3; rcases hp with hp | hp | hp <;> omega))
        have HB5 : Hid (Below g3 Z (W1.setCell ⟨g3, 0, none⟩ (.slice A6 (k + 1) c6))) := by
          have h1 := hB.out.trans (hwc.mono (by have := hb1.lt; omega))
          have h2 := h1.trans (hbel.mono (by have := hb1r.lt; omega))
          have h3 := below_grown h2 hg1 (fun b hb => by have h5 := (hown0 b hb).1; omega) (by omega)
          exact Lib.hid (h3.setCell (p := ⟨g3, 0, none⟩) (Nat.le_refl _) _)
        have HL5 : Hid (∀ i, i < k + 1 → StL ((fun i => if i = k then (⟨ow, mrk, some ⟨b3, off3, none⟩, m1, d1, ch⟩ : StV) else st2 i) i) (tg i)) := Lib.hid fun i hi => by
          dsimp only
          by_cases e : i = k
          · rw [if_pos e, e]; exact (HL2.out HPP.out)
          · rw [if_neg e]; exact hl2 i (by omega)
        obtain ⟨x0, x1, x2⟩ := hbx.out
        have b0 := hb1r.out
        have f0 := hg3'.frz
        have b1 := hg3'.out
        have hl3 := hg3'.lt
        have hl4 := hb1r.lt
        clear hbx hwc hb1 hos hl2 hb1r hosr hbel hnew n0 n1 n2 hown0 hown1 hlo2 hzs hg2 hwrs hzle hg3 hg3' ho1 hg1 hO
        go_wp2_with (at_builtin; refine wpList_app rfl _ _ 22 rfl _ _ _ rfl rfl hr ?_)
        exact ⟨⟨k + 1, Lib.hid (by omega), by rw [show ((k + 1 : Nat) : Int) = (k : Int) + 1 from by omega], ⟨_, Lib.hid ⟨HP.out, _, HS2'.out, HL5.out⟩⟩, HB5⟩, by simp [intOf]; omega⟩
    · have hke : k = n := by have := hk.out; omega
      have hlt' : ¬ (k : Int) < (n : Int) := by omega
      subst hke
      obtain ⟨hb1, st2, hos, hl2⟩ := hO.out
      obtain ⟨A6, c6, e6, hrows⟩ := own_rows hos.1
      subst e6
      have h2 : B1 wr (w.heap.size + 1) 24 (.slice none 0 0) := HB2.out.block (hB.out.block _ (by have := HG3.out; omega))
      have HP := Lib.hid (h2.put (.slice A6 k c6))
      have HLP : Hid (LstP (fun b => b < lo ∨ w.heap.size ≤ b) (wr.setCell ⟨w.heap.size + 1, 0, none⟩ (.slice A6 k c6)) A6 k st2) := Lib.hid ((LstP.stay (P := fun b => b < lo ∨ Z.heap.size ≤ b) (w := wr) ⟨hrows.imp fun b _ hp => .inr hp.2, fun i hi => (hos.2 i hi).imp fun b _ hp => hp.2⟩ (w' := wr.setCell ⟨w.heap.size + 1, 0, none⟩ (.slice A6 k c6)) (by simp [World.setCell]) fun b _ hp => Below.heap_setCell _ ⟨w.heap.size + 1, 0, none⟩ _ b (by have h3 := HZS.out; have h4 := HG3.out; have h6 := HLO.out; have h5 : b < lo ∨ Z.heap.size ≤ b := hp; show b ≠ w.heap.size + 1; omega)).imp fun b _ hp => by have h3 := HZS.out; have h4 := HG3.out; have h5 : b < lo ∨ Z.heap.size ≤ b := hp; show b < lo ∨ w.heap.size ≤ b; omega)
      have HB6 := Lib.hid (HWB.out.setCell (p := ⟨w.heap.size + 1, 0, none⟩) (Nat.le_add_right _ _) (.slice A6 k c6))
      have HLK := Lib.hid hl2
      have b0 := hb1.out
      have r0 := h2.out
      have f0 := h2.frz
      have hrl := h2.lt
      clear hb1 hos hl2 hrows h2 hO
      generalize w.heap.size + 1 = g2 at *
      go_wp2_with fail
      generalize wr.setCell ⟨g2, 0, none⟩ (.slice A6 k c6) = V at *
      have c0 := HP.out.out
      exact bodyPost_ret (v := .agg #[.slice A6 k c6]) (by simp [results, Tryz.results59, go_sem, c0]) rfl ⟨_, _, st2, rfl, HLP.out, HLK.out, HB6.out⟩
theorem rabsorb_any (A D : Option Addr) (n c kg q lo : Nat) (st tg : Nat → StV) (f : Nat → Int) (w : World) (hn : n ≤ 60) (hlo : lo ≤ w.heap.size) (hA : LstP (fun b => b < lo) w A n st) (hD : Lin w D kg f) (hkg : kg ≤ 1000000)
    (h1 : ∀ i, i < n → memB f kg (i : Int) = true → StL ⟨(st i).ow, (st i).mrk, none, 1, 1, fun _ => loopC i⟩ (tg i)) (h2 : ∀ i, i < n → memB f kg (i : Int) = false → StL (st i) (tg i)) :
    Calls Tryz.prog 60 #[.agg #[.slice A n c], .slice D kg q] w (RetLo lo n tg w) := by
  have HN := Lib.hid hn
  have HLO := Lib.hid hlo
  have HA : Hid (∀ wx, Below w.heap.size w wx → LstP (fun b => b < lo) wx A n st) := Lib.hid fun wx hx => hA.stay hx.size fun b hlt _ => hx.block b hlt
  have HDL := Lib.hid hD
  have HKG := Lib.hid hkg
  have HH1 := Lib.hid h1
  have HH2 := Lib.hid h2
  clear hn hlo hA hD hkg h1 h2
  go_enter Tryz.func60, Tryz.ntmps60
  go_upto_region 2 with fail
  generalize hZ : World.alloc _ _ = Z
  obtain ⟨hZB, hb1, hb2, hb3⟩ := alloc_3 hZ
  have hZs : Z.heap.size = w.heap.size + 2 + 1 := by rw [← hZ]; simp
  have HZS := Lib.hid hZs
  have HZB := Lib.hid hZB
  have HB2 := Lib.hid hb2
  have HB3 := Lib.hid hb3
  have x0 := hb1.out
  clear hZ hZs hZB hb1 hb2 hb3
  go_wp2_with fail
  clear x0
  obtain ⟨g3, hg3⟩ : ∃ g3, w.heap.size + 2 = g3 := ⟨_, rfl⟩
  have HG3 := Lib.hid hg3
  rw [hg3] at HZS HB3 ⊢
  clear hg3
  go_loopw [12] (fun i wr => ∃ k : Nat, Hid (k ≤ n) ∧ i = .int .i64 (k : Int) ∧ (∃ v, Hid (B1 wr g3 24 v ∧ ∃ st2, OwnS (fun b => b < lo ∨ Z.heap.size ≤ b) Z.heap.size wr v k st2 ∧ ∀ i, i < k → StL (st2 i) (tg i))) ∧ Hid (Below g3 Z wr)) (fun i _ => n - (intOf i).toNat)
  case atStart => exact ⟨0, Nat.zero_le _, rfl, ⟨_, Lib.hid ⟨HB3.out, tg, OwnS.nil _ _ _ _, fun i hi => absurd hi (by omega)⟩⟩, Lib.hid (Below.refl _ _)⟩
  case round =>
    obtain ⟨k, hk, rfl, ⟨v0, hO⟩, hB⟩ := hrel
    have HWB : Hid (Below w.heap.size w wr) := Lib.hid (HZB.out.trans (hB.out.mono (by have := HG3.out; omega)))
    by_cases hlt : k < n
    · have hlt' : (k : Int) < (n : Int) := by omega
      have hn1 : n ≤ 60 := HN.out
      obtain ⟨b, off, hAe, hS3, -⟩ := (HA.out wr HWB.out).to.at hlt
      have HSP : Hid (∀ wx, Below w.heap.size w wx → StP (fun b => b < lo) wx (st k)) := Lib.hid fun wx hx => (HA.out wx hx).2 k hlt
      have HL1 := Lib.hid (HH1.out k hlt)
      have HL2 := Lib.hid (HH2.out k hlt)
      generalize st k = sk at hS3 HSP HL1 HL2
      obtain ⟨ow, mrk, E, m1, d1, ch⟩ := sk
      dsimp only at hS3 HL1 HL2
      have HSUB0 : Hid (∀ wx, Below wr.heap.size wr wx → StP (fun b => b < lo ∨ wr.heap.size ≤ b) wx ⟨ow, mrk, E, m1, d1, ch⟩) := Lib.hid fun wx hx => (HSP.out wx (HWB.out.trans (hx.mono HWB.out.size))).imp fun b _ hp => .inl hp
      obtain ⟨-, s0, s1, s2⟩ := hS3
      subst hAe
      clear HSP
      go_upto_region 5 with fail
      clear s0 s1 s2
      generalize hZ1 : wr.alloc _ = Z1
      have HR1 : Hid (Below wr.heap.size wr Z1) := by rw [← hZ1]; exact Lib.hid (below_alloc _ _)
      have HBX : Hid (Bw Z1 wr.heap.size 53 (.int .i64 ow) (.int .i64 mrk) (.slice E m1 d1)) := by rw [← hZ1]; exact Lib.hid (Bw.new _ _ _ _ _)
      clear hZ1
      obtain ⟨gx, hgx⟩ : ∃ gx, wr.heap.size = gx := ⟨_, rfl⟩
      have HGE : Hid (wr.heap.size ≤ gx) := Lib.hid (Nat.le_of_eq hgx)
      rw [hgx] at HBX ⊢
      clear hgx
      go_wp2_with fail
      (with_reducible refine (rin_any D kg q f (k : Int) Z1 HKG.out (HDL.out.keep (HWB.out.trans (HR1.out.mono HWB.out.size)))).mono ?_)
      rintro e w1 ⟨rfl, hb1⟩
      have HW1 : Hid (Below wr.heap.size wr w1) := Lib.hid (HR1.out.trans (hb1.mono HR1.out.size))
      have HB1 : Hid (Bw w1 gx 53 (.int .i64 ow) (.int .i64 mrk) (.slice E m1 d1)) := Lib.hid (HBX.out.keep hb1)
      clear hb1 HR1 HBX
      cases hmem : memB f kg (k : Int) with
      | false =>
        have HLK := Lib.hid (HL2.out hmem)
        clear HL1 HL2 hmem
        have hwc := HW1.out
        have hbx := HB1.out
        obtain ⟨hb1, st2, hos, hl2⟩ := hO.out
        have hb1r := hb1.keep hwc
        have hosr := hos.keep hwc
        have hbel : Below w1.heap.size w1 (w1.alloc (.cells #[.int .i64 ow, .int .i64 mrk, .slice E m1 d1] 53)) := below_alloc _ _
        have hnew := Bw.new w1 53 (.int .i64 ow) (.int .i64 mrk) (.slice E m1 d1)
        obtain ⟨n0, n1, n2⟩ := hnew.out
        have hown0 := hosr.lt
        have hown1 := hos.lt
        have hlo2 := HLO.out
        have hzs := HZS.out
        have hg2 := HG3.out
        have hwrs := hB.out.size
        have hzle : Z.heap.size ≤ w1.heap.size := Nat.le_trans hB.out.size hwc.size
        obtain ⟨v1, W1, hr, ho1, hg1⟩ := run_pushS (hosr.keep hbel) (by omega) (Nat.le_trans hzle hbel.size) 22 w1.heap.size 0 1 ⟨ow, mrk, E, m1, d1, ch⟩ n0 n1 n2
          ((StP.stay (HSUB0.out w1 hwc) hbel.size fun b hlt _ => hbel.block b hlt).imp fun b _ hp => ⟨fun e => by have h1 := hown1 b e.symm; rcases hp with hp | hp <;> omega, by rcases hp with hp | hp <;> omega⟩)
        obtain ⟨A6, c6, e6, -⟩ := own_rows ho1.1
        subst e6
        have hg3 := hb1r.keep hbel
        have hg3' : B1 W1 g3 24 v0 := hg3.block (hg1.block g3 hg3.lt fun e => by have h1 := (hown0 g3 e.symm).1; omega)
        have HP := Lib.hid (hg3'.put (.slice A6 (k + 1) c6))
        have HS2' := Lib.hid (ho1.stay (w' := W1.setCell ⟨g3, 0, none⟩ (.slice A6 (k + 1) c6)) (by simp [World.setCell]) fun b _ hp => Below.heap_setCell _ ⟨g3, 0, none⟩ _ b (by show b ≠ g3; rcases hp with hp | hp | hp <;> omega))
        have HB5 : Hid (Below g3 Z (W1.setCell ⟨g3, 0, none⟩ (.slice A6 (k + 1) c6))) := by
          have h1 := hB.out.trans (hwc.mono (by have := hb1.lt; omega))
          have h2 := h1.trans (hbel.mono (by have := hb1r.lt; omega))
          have h3 := below_grown h2 hg1 (fun b hb => by have h5 := (hown0 b hb).1; omega) (by omega)
          exact Lib.hid (h3.setCell (p := ⟨g3, 0, none⟩) (Nat.le_refl _) _)
        have HL5 : Hid (∀ i, i < k + 1 → StL ((fun i => if i = k then (⟨ow, mrk, E, m1, d1, ch⟩ : StV) else st2 i) i) (tg i)) := Lib.hid fun i hi => by
          dsimp only
          by_cases e : i = k
          · rw [if_pos e, e]; exact HLK.out
          · rw [if_neg e]; exact hl2 i (by omega)
        obtain ⟨x0, x1, x2⟩ := hbx.out
        have b0 := hb1r.out
        have f0 := hg3'.frz
        have b1 := hg3'.out
        have hl3 := hg3'.lt
        have hl4 := hb1r.lt
        clear hbx hwc hb1 hos hl2 hb1r hosr hbel hnew n0 n1 n2 hown0 hown1 hlo2 hzs hg2 hwrs hzle hg3 hg3' ho1 hg1 hO
        go_wp2_with (at_builtin; refine wpList_app rfl _ _ 22 rfl _ _ _ rfl rfl hr ?_)
        exact ⟨⟨k + 1, Lib.hid (by omega), by rw [show ((k + 1 : Nat) : Int) = (k : Int) + 1 from by omega], ⟨_, Lib.hid ⟨HP.out, _, HS2'.out, HL5.out⟩⟩, HB5⟩, by simp [intOf]; omega⟩
      | true =>
        have HLK := Lib.hid (HL1.out hmem)
        clear HL1 HL2 hmem
        go_wp2_with fail
        (with_reducible refine (rloop_any (k : Int) w1).mono ?_)
        rintro e w2 ⟨gl, rfl, hgl, hbl, hb2⟩
        have HW2 : Hid (Below wr.heap.size wr w2) := Lib.hid (HW1.out.trans (hb2.mono HW1.out.size))
        have HB2' : Hid (Bw w2 gx 53 (.int .i64 ow) (.int .i64 mrk) (.slice E m1 d1)) := Lib.hid (HB1.out.keep hb2)
        have HBL := Lib.hid hbl
        have HGL : Hid (wr.heap.size ≤ gl ∧ gl ≠ gx) := Lib.hid ⟨Nat.le_trans HW1.out.size hgl, by have := HB1.out.lt; omega⟩
        clear hgl hbl hb2 HW1 HB1
        obtain ⟨x0, x1, x2⟩ := HB2'.out.out
        obtain ⟨f0, f1, f2⟩ := HB2'.out.frz
        have hgxl := HB2'.out.lt
        go_upto_region 7 with fail
        clear x0 x1 x2 f0 f1 f2 hgxl
        generalize hV : World.alloc _ _ = V
        have HV : Hid (Bw V gx 53 (.int .i64 ow) (.int .i64 mrk) (.slice (some ⟨w2.heap.size, 0, none⟩) 1 1) ∧ Bw V w2.heap.size 65 (.int .i64 0) (.int .i64 1) (.slice (some ⟨gl, 0, none⟩) 1 1) ∧ Bw V gl 74 (.int .i64 (k : Int)) (.int .i64 1) (.int .i64 1) ∧ Below wr.heap.size wr V) := by
          have hb := HB2'.out.put2 (.slice (some ⟨w2.heap.size, 0, none⟩) 1 1)
          have hbe := HW2.out.setCell (p := ⟨gx, 2, none⟩) HGE.out (.slice (some ⟨w2.heap.size, 0, none⟩) 1 1)
          have hs : (w2.setCell ⟨gx, 2, none⟩ (.slice (some ⟨w2.heap.size, 0, none⟩) 1 1)).heap.size = w2.heap.size := by simp [World.setCell]
          have hbl : Bw (w2.setCell ⟨gx, 2, none⟩ (.slice (some ⟨w2.heap.size, 0, none⟩) 1 1)) gl 74 (.int .i64 (k : Int)) (.int .i64 1) (.int .i64 1) := HBL.out.block (Below.heap_setCell _ ⟨gx, 2, none⟩ _ gl HGL.out.2)
          generalize w2.setCell ⟨gx, 2, none⟩ (.slice (some ⟨w2.heap.size, 0, none⟩) 1 1) = U at hV hb hbe hs hbl
          have h2 := Bw.new U 65 (.int .i64 0) (.int .i64 1) (.slice (some ⟨gl, 0, none⟩) 1 1)
          rw [hs, hV] at h2
          have hal := below_alloc U (.cells #[.int .i64 0, .int .i64 1, .slice (some ⟨gl, 0, none⟩) 1 1] 65)
          rw [hV] at hal
          exact Lib.hid ⟨hb.keep hal, h2, hbl.keep hal, hbe.trans (hal.mono hbe.size)⟩
        have HNW : Hid (StP (fun b => b < lo ∨ wr.heap.size ≤ b) V ⟨ow, mrk, some ⟨w2.heap.size, 0, none⟩, 1, 1, fun _ => ⟨0, 1, some ⟨gl, 0, none⟩, 1, 1, fun _ => (k : Int), fun _ => 1, fun _ => 1⟩⟩) := Lib.hid ⟨HV.out.2.1.rows1 (P := fun b => b < lo ∨ wr.heap.size ≤ b) (.inr HW2.out.size), fun _ _ => HV.out.2.2.1.rows1 (P := fun b => b < lo ∨ wr.heap.size ≤ b) (.inr HGL.out.1)⟩
        have HLN : Hid (StL ⟨ow, mrk, some ⟨w2.heap.size, 0, none⟩, 1, 1, fun _ => ⟨0, 1, some ⟨gl, 0, none⟩, 1, 1, fun _ => (k : Int), fun _ => 1, fun _ => 1⟩⟩ (tg k)) := Lib.hid (StL.trans (s' := ⟨ow, mrk, none, 1, 1, fun _ => loopC k⟩) ⟨rfl, rfl, rfl, fun _ _ => ⟨rfl, rfl, rfl, fun _ _ => ⟨rfl, rfl, rfl⟩⟩⟩ HLK.out)
        have hwc := HV.out.2.2.2
        have hbx := HV.out.1
        clear hV HW2 HB2' HBL HV
        generalize w2.heap.size = g7 at *
        obtain ⟨hb1, st2, hos, hl2⟩ := hO.out
        have hb1r := hb1.keep hwc
        have hosr := hos.keep hwc
        have hbel : Below V.heap.size V (V.alloc (.cells #[.int .i64 ow, .int .i64 mrk, .slice (some ⟨g7, 0, none⟩) 1 1] 53)) := below_alloc _ _
        have hnew := Bw.new V 53 (.int .i64 ow) (.int .i64 mrk) (.slice (some ⟨g7, 0, none⟩) 1 1)
        obtain ⟨n0, n1, n2⟩ := hnew.out
        have hown0 := hosr.lt
        have hown1 := hos.lt
        have hlo2 := HLO.out
        have hzs := HZS.out
        have hg2 := HG3.out
        have hwrs := hB.out.size
        have hzle : Z.heap.size ≤ V.heap.size := Nat.le_trans hB.out.size hwc.size
        obtain ⟨v1, W1, hr, ho1, hg1⟩ := run_pushS (hosr.keep hbel) (by omega) (Nat.le_trans hzle hbel.size) 22 V.heap.size 0 1 ⟨ow, mrk, some ⟨g7, 0, none⟩, 1, 1, fun _ => ⟨0, 1, some ⟨gl, 0, none⟩, 1, 1, fun _ => (k : Int), fun _ => 1, fun _ => 1⟩⟩ n0 n1 n2
          ((StP.stay HNW.out hbel.size fun b hlt _ => hbel.block b hlt).imp fun b _ hp => ⟨fun e => by have h1 := hown1 b e.symm; rcases hp with hp | hp <;> omega, by rcases hp with hp | hp <;> omega⟩)
        obtain ⟨A6, c6, e6, -⟩ := own_rows ho1.1
        subst e6
        have hg3 := hb1r.keep hbel
        have hg3' : B1 W1 g3 24 v0 := hg3.block (hg1.block g3 hg3.lt fun e => by have h1 := (hown0 g3 e.symm).1; omega)
        have HP := Lib.hid (hg3'.put (.slice A6 (k + 1) c6))
        have HS2' := Lib.hid (ho1.stay (w' := W1.setCell ⟨g3, 0, none⟩ (.slice A6 (k + 1) c6)) (by simp [World.setCell]) fun b _ hp => Below.heap_setCell _ ⟨g3, 0, none⟩ _ b (by show b ≠ g3; rcases hp with hp | hp | hp <;> omega))
        have HB5 : Hid (Below g3 Z (W1.setCell ⟨g3, 0, none⟩ (.slice A6 (k + 1) c6))) := by
          have h1 := hB.out.trans (hwc.mono (by have := hb1.lt; omega))
          have h2 := h1.trans (hbel.mono (by have := hb1r.lt; omega))
          have h3 := below_grown h2 hg1 (fun b hb => by have h5 := (hown0 b hb).1; omega) (by omega)
          exact Lib.hid (h3.setCell (p := ⟨g3, 0, none⟩) (Nat.le_refl _) _)
        have HL5 : Hid (∀ i, i < k + 1 → StL ((fun i => if i = k then (⟨ow, mrk, some ⟨g7, 0, none⟩, 1, 1, fun _ => ⟨0, 1, some ⟨gl, 0, none⟩, 1, 1, fun _ => (k : Int), fun _ => 1, fun _ => 1⟩⟩ : StV) else st2 i) i) (tg i)) := Lib.hid fun i hi => by
          dsimp only
          by_cases e : i = k
          · rw [if_pos e, e]; exact HLN.out
          · rw [if_neg e]; exact hl2 i (by omega)
        obtain ⟨x0, x1, x2⟩ := hbx.out
        have b0 := hb1r.out
        have f0 := hg3'.frz
        have b1 := hg3'.out
        have hl3 := hg3'.lt
        have hl4 := hb1r.lt
        clear hbx hwc hb1 hos hl2 hb1r hosr hbel hnew n0 n1 n2 hown0 hown1 hlo2 hzs hg2 hwrs hzle hg3 hg3' ho1 hg1 hO
        go_wp2_with (at_builtin; refine wpList_app rfl _ _ 22 rfl _ _ _ rfl rfl hr ?_)
        exact ⟨⟨k + 1, Lib.hid (by omega), by rw [show ((k + 1 : Nat) : Int) = (k : Int) + 1 from by omega], ⟨_, Lib.hid ⟨HP.out, _, HS2'.out, HL5.out⟩⟩, HB5⟩, by simp [intOf]; omega⟩
    · have hke : k = n := by have := hk.out; omega
      have hlt' : ¬ (k : Int) < (n : Int) := by omega
      subst hke
      obtain ⟨hb1, st2, hos, hl2⟩ := hO.out
      obtain ⟨A6, c6, e6, hrows⟩ := own_rows hos.1
      subst e6
      have h2 : B1 wr (w.heap.size + 1) 24 (.slice none 0 0) := HB2.out.block (hB.out.block _ (by have := HG3.out; omega))
      have HP := Lib.hid (h2.put (.slice A6 k c6))
      have HLP : Hid (LstP (fun b => b < lo ∨ w.heap.size ≤ b) (wr.setCell ⟨w.heap.size + 1, 0, none⟩ (.slice A6 k c6)) A6 k st2) := Lib.hid ((LstP.stay (P := fun b => b < lo ∨ Z.heap.size ≤ b) (w := wr) ⟨hrows.imp fun b _ hp => .inr hp.2, fun i hi => (hos.2 i hi).imp fun b _ hp => hp.2⟩ (w' := wr.setCell ⟨w.heap.size + 1, 0, none⟩ (.slice A6 k c6)) (by simp [World.setCell]) fun b _ hp => Below.heap_setCell _ ⟨w.heap.size + 1, 0, none⟩ _ b (by have h3 := HZS.out; have h4 := HG3.out; have h6 := HLO.out; have h5 : b < lo ∨ Z.heap.size ≤ b := hp; show b ≠ w.heap.size + 1; omega)).imp fun b _ hp => by have h3 := HZS.out; have h4 := HG3.out; have h5 : b < lo ∨ Z.heap.size ≤ b := hp; show b < lo ∨ w.heap.size ≤ b; omega)
      have HB6 := Lib.hid (HWB.out.setCell (p := ⟨w.heap.size + 1, 0, none⟩) (Nat.le_add_right _ _) (.slice A6 k c6))
      have HLK := Lib.hid hl2
      have b0 := hb1.out
      have r0 := h2.out
      have f0 := h2.frz
      have hrl := h2.lt
      clear hb1 hos hl2 hrows h2 hO
      generalize w.heap.size + 1 = g2 at *
      go_wp2_with fail
      generalize wr.setCell ⟨g2, 0, none⟩ (.slice A6 k c6) = V at *
      have c0 := HP.out.out
      exact bodyPost_ret (v := .agg #[.slice A6 k c6]) (by simp [results, Tryz.results60, go_sem, c0]) rfl ⟨_, _, st2, rfl, HLP.out, HLK.out, HB6.out⟩
end Go.Proofs.YtokbejkkpekpnaaGreatDoor
