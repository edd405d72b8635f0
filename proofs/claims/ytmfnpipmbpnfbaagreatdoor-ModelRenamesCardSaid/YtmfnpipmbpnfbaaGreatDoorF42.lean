/- The closure of the program's Rename: what it returns for state ix. -/
import Derived.Test.YtmfnpipmbpnfbaaGreatDoorF41
import Derived.Test.YtmfnpipmbpnfbaaGreatDoorF40
import Derived.Test.YtmfnpipmbpnfbaaGreatDoorF37
import Derived.Test.YtmfnpipmbpnfbaaGreatDoorF35
import Derived.Deep.Draws
import Derived.Deep.LoopGhost

set_option maxRecDepth 100000
set_option maxHeartbeats 40000000
namespace Go.Proofs.YtmfnpipmbpnfbaaGreatDoor
open Go.RowKit
theorem ren1_any (gm go : Nat) (A B : Option Addr) (n c m d : Nat) (st : Nat → StV) (f : Nat → Int) (ix : Nat) (w : World) (HM : Hid (MBx w gm A n c)) (HOO : Hid (MBx w go B m d)) (hA : Lst w A n st) (hB : Lin w B m f) (hi : ix < m) (h0 : 0 ≤ f ix) (hf : (f ix).toNat < n) :
    Calls Tryz.prog 75 #[.int .i64 (ix : Int), .pointer (some ⟨gm, 0, none⟩), .pointer (some ⟨go, 0, none⟩)] w (RetT (fun _ => True) (st (f ix).toNat) w) := by
  obtain ⟨b2, off2, rfl, hz⟩ := hB.at hi
  obtain ⟨fk, hfk⟩ := Int.eq_ofNat_of_zero_le h0
  have hfn : (f ix).toNat = fk := by rw [hfk]; rfl
  rw [hfn] at hf ⊢
  rw [hfk] at hz
  obtain ⟨b, off, rfl, hS3, hL⟩ := hA.at hf
  clear hfk hfn h0 hA hB
  generalize st fk = S at *
  obtain ⟨ow, mrk, D, k, d1, ch⟩ := S
  dsimp only at hS3 hL
  have HLL := Lib.hid hL
  have HS3 := Lib.hid hS3
  have HZZ := Lib.hid hz
  have hlt1 : (ix : Int) < (m : Int) := by omega
  have hlt2 : (fk : Int) < (n : Int) := by omega
  clear hL hS3 hz
  go_enter Tryz.func75, Tryz.ntmps75
  go_upto_region 1 with fail
  generalize hZ : w.alloc _ = Z
  have hbz : Below w.heap.size w Z := by rw [← hZ]; exact below_alloc _ _
  have HR : Hid (Bw Z w.heap.size 53 (.int .i64 0) (.int .i64 0) (.slice none 0 0)) := by rw [← hZ]; exact Lib.hid (Bw.new _ _ _ _ _)
  have HZ0 := Lib.hid hbz
  have HMB := Lib.hid (HM.out.keep hbz)
  have HOB := Lib.hid (HOO.out.keep hbz)
  have HZ1 := Lib.hid (HZZ.out.keep hbz)
  have HS1 := Lib.hid (HS3.out.keep hbz)
  have HL1 : Hid (∀ wx, Below Z.heap.size Z wx → StP (fun b => b ≠ w.heap.size) wx ⟨ow, mrk, D, k, d1, ch⟩) := Lib.hid fun wx hx => by
    have hwx := HZ0.out.trans (hx.mono HZ0.out.size)
    exact (StP.of (P := fun b => b ≠ w.heap.size) (s := ⟨ow, mrk, D, k, d1, ch⟩) HLL.out (fun b hb => by omega)).stay hwx.size fun b hlt _ => hwx.block b hlt
  clear hZ hbz HM HOO HZZ HS3 HLL
  obtain ⟨g4, hg4⟩ : ∃ g4, w.heap.size = g4 := ⟨_, rfl⟩
  have HG : Hid (w.heap.size ≤ g4) := Lib.hid (Nat.le_of_eq hg4)
  rw [hg4] at HR HL1 ⊢
  clear hg4
  refine wp_region_flow_store 8 [5, 6, 7, 8, 9, 10, 11, 12] (fun i => 5 + i) (Below Z.heap.size Z) (EndT (fun b => b ≠ g4) w g4 ⟨ow, mrk, D, k, d1, ch⟩) (Sml [.val (.pointer (some ⟨gm, 0, none⟩)), .val (.slice (some ⟨b, off, none⟩) n c), .val (.slice (some ⟨b2, off2, none⟩) m d), .val (.int .i64 (ix : Int)), .val (.pointer (some ⟨b2, off2 + ix, none⟩)), .val (.int .i64 (fk : Int)), .val (.pointer (some ⟨b, off + fk * 3, none⟩)), .val (.agg #[.int .i64 ow, .int .i64 mrk, .slice D k d1])]) (by kernel_rfl) (by kernel_rfl) (by kernel_rfl) (by kernel_rfl) (by kernel_rfl) (fun i j _ _ h => Nat.add_left_cancel (show 5 + i = 5 + j from h)) (by decide) (fun wx wy (h : Below Z.heap.size Z wx) hb => h.trans (hb.mono h.size)) Sml.keep ?_ ?_ ?_ ?_
  · exact Below.drew (Below.refl _ _)
  · intro i v wx o T' K hi ho hF hdep hin hout hK
    have HF := Lib.hid hF
    have HD := Lib.hid hdep
    clear hF hdep
    rcases (by omega : i = 0 ∨ i = 1 ∨ i = 2 ∨ i = 3 ∨ i = 4 ∨ i = 5 ∨ i = 6 ∨ i = 7) with rfl | rfl | rfl | rfl | rfl | rfl | rfl | rfl
    · obtain rfl := Option.some.inj ho
      have sl1 : T'[1]? = some (.pointer (some ⟨gm, 0, none⟩)) := (hout 1 (by decide)).trans rfl
      clear hin hout ho hi
      go_simp
      exact hK _ _ (Below.refl _ _) rfl
    · obtain rfl := Option.some.inj ho
      have q5 := hin 5 (by decide)
      have e1 : v 5 = (.pointer (some ⟨gm, 0, none⟩)) := HD.out ⟨0, .data⟩ (by simp) rfl
      rw [e1] at q5
      obtain ⟨k0, -⟩ := HMB.out.keep HF.out
      have hP := (rfl : Value.slice (some ⟨b, off, none⟩) n c = .slice (some ⟨b, off, none⟩) n c)
      clear hin hout ho hi
      go_simp
      exact hK _ _ (Below.refl _ _) hP
    · obtain rfl := Option.some.inj ho
      have sl2 : T'[2]? = some (.pointer (some ⟨go, 0, none⟩)) := (hout 2 (by decide)).trans rfl
      obtain ⟨k0, -⟩ := HOB.out.keep HF.out
      have hP := (rfl : Value.slice (some ⟨b2, off2, none⟩) m d = .slice (some ⟨b2, off2, none⟩) m d)
      clear hin hout ho hi
      go_simp
      exact hK _ _ (Below.refl _ _) hP
    · obtain rfl := Option.some.inj ho
      have sl0 : T'[0]? = some (.int .i64 (ix : Int)) := (hout 0 (by decide)).trans rfl
      clear hin hout ho hi
      go_simp
      exact hK _ _ (Below.refl _ _) rfl
    · obtain rfl := Option.some.inj ho
      have q7 := hin 7 (by decide)
      have q8 := hin 8 (by decide)
      have e0 : v 7 = (.slice (some ⟨b2, off2, none⟩) m d) := HD.out ⟨2, .data⟩ (by simp) rfl
      rw [e0] at q7
      have e1 : v 8 = (.int .i64 (ix : Int)) := HD.out ⟨3, .data⟩ (by simp) rfl
      rw [e1] at q8
      clear hin hout ho hi
      go_simp
      exact hK _ _ (Below.refl _ _) rfl
    · obtain rfl := Option.some.inj ho
      have q9 := hin 9 (by decide)
      have e1 : v 9 = (.pointer (some ⟨b2, off2 + ix, none⟩)) := HD.out ⟨4, .data⟩ (by simp) rfl
      rw [e1] at q9
      obtain ⟨-, k0⟩ := HZ1.out.keep HF.out
      have hP := (rfl : Value.int .i64 (fk : Int) = .int .i64 (fk : Int))
      clear hin hout ho hi
      go_simp
      exact hK _ _ (Below.refl _ _) hP
    · obtain rfl := Option.some.inj ho
      have q6 := hin 6 (by decide)
      have q10 := hin 10 (by decide)
      have e0 : v 6 = (.slice (some ⟨b, off, none⟩) n c) := HD.out ⟨1, .data⟩ (by simp) rfl
      rw [e0] at q6
      have e1 : v 10 = (.int .i64 (fk : Int)) := HD.out ⟨5, .data⟩ (by simp) rfl
      rw [e1] at q10
      clear hin hout ho hi
      go_simp
      exact hK _ _ (Below.refl _ _) rfl
    · obtain rfl := Option.some.inj ho
      have q11 := hin 11 (by decide)
      have e1 : v 11 = (.pointer (some ⟨b, off + fk * 3, none⟩)) := HD.out ⟨6, .data⟩ (by simp) rfl
      rw [e1] at q11
      obtain ⟨-, k0, k1, k2⟩ := HS1.out.keep HF.out
      have hP := (rfl : Value.agg #[.int .i64 ow, .int .i64 mrk, .slice D k d1] = .agg #[.int .i64 ow, .int .i64 mrk, .slice D k d1])
      clear hin hout ho hi
      go_simp
      exact hK _ _ (Below.refl _ _) hP
  · intro v wx o T' K ho hF hall hin hout hK
    obtain rfl := Option.some.inj ho
    have sl4 : T'[4]? = some (.pointer (some ⟨g4, 0, none⟩)) := (hout 4 (by decide)).trans rfl
    have q12 := hin 12 (by decide)
    have h0 : v 12 = (.agg #[.int .i64 ow, .int .i64 mrk, .slice D k d1]) := hall 7 (by decide)
    clear hin hout hall ho
    rw [h0] at q12
    have HE := Lib.hid (fixEnd (P := fun b => b ≠ g4) HZ0.out HG.out hF (HR.out.keep hF) (fun _ h => h) (StL.refl _) (HL1.out wx hF))
    dsimp only at HE
    obtain ⟨c0, c1, c2⟩ := (HR.out.keep hF).out
    obtain ⟨f0, f1, f2⟩ := (HR.out.keep hF).frz
    clear h0 hF
    go_simp
    exact hK _ HE.out
  · intro v wx hE
    obtain ⟨s, hb, hs, hc, hB⟩ := hE
    have HS := Lib.hid hs
    have HC := Lib.hid hc
    have HB := Lib.hid hB
    obtain ⟨c0, c1, c2⟩ := hb.out
    clear hs hc hB hb
    simp only [over, List.setIfInBounds_toArray, List.set_cons_zero, List.set_cons_succ]
    generalize v 5 = v5
    generalize v 6 = v6
    generalize v 7 = v7
    generalize v 8 = v8
    generalize v 9 = v9
    generalize v 10 = v10
    generalize v 11 = v11
    generalize v 12 = v12
    go_wp2_with fail
    exact bodyPost_ret (v := .agg #[.int .i64 s.ow, .int .i64 s.mrk, .slice s.A s.n s.c]) (by simp [results, Tryz.results75, go_sem, c0, c1, c2]) rfl ⟨_, rfl, ⟨s, rfl, HS.out, HC.out.imp fun _ _ _ => trivial⟩, HB.out⟩
def perB (f : Nat → Int) (n i : Nat) : Bool := !(decide (f i < 0)) && !(decide ((n : Int) ≤ f i)) && allB (fun j => !(decide (f j = f i))) i
def ordB (n m : Nat) (f : Nat → Int) : Bool := ((m : Int) == (n : Int)) && allB (perB f n) m
def nmF (f : Nat → Int) : Nat → Nat → Int
  | 0 => fun _ => -1
  | k + 1 => fun x => if x = (f k).toNat then (k : Int) else nmF f k x
theorem nmF_at {f : Nat → Int} {n : Nat} : ∀ {k : Nat}, (∀ i, i < k → perB f n i = true) → ∀ i, i < k → nmF f k (f i).toNat = (i : Int)
  | 0, _, i, hi => absurd hi (by omega)
  | k + 1, h, i, hi => by
    show (if (f i).toNat = (f k).toNat then (k : Int) else nmF f k (f i).toNat) = _
    by_cases e : i = k
    · rw [e, if_pos rfl]
    · have hk := h k (by omega)
      have hi2 := h i hi
      simp only [perB, Bool.and_eq_true, Bool.not_eq_true', decide_eq_false_iff_not] at hk hi2
      have h3 := allB_get hk.2 (show i < k by omega)
      have h4 := of_decide_eq_false (by simpa using h3 : decide (f i = f k) = false)
      rw [if_neg (by omega)]
      exact nmF_at (fun j hj => h j (by omega)) i (by omega)
theorem nmF_neg {f : Nat → Int} : ∀ {k x : Nat}, (∀ i, i < k → (f i).toNat ≠ x) → nmF f k x = -1
  | 0, _, _ => rfl
  | k + 1, x, h => by
    show (if x = (f k).toNat then (k : Int) else nmF f k x) = _
    rw [if_neg (fun e => h k (by omega) e.symm)]
    exact nmF_neg fun i hi => h i (by omega)
theorem nmF_seen {f : Nat → Int} {n k : Nat} (h : ∀ i, i < k → perB f n i = true) (h0 : 0 ≤ f k) : decide (0 ≤ nmF f k (f k).toNat) = !(allB (fun j => !(decide (f j = f k))) k) := by
  cases hs : allB (fun j => !(decide (f j = f k))) k with
  | true =>
    have : nmF f k (f k).toNat = -1 := nmF_neg fun i hi e => by
      have h1 := allB_get hs hi
      have h2 := of_decide_eq_false (by simpa using h1 : decide (f i = f k) = false)
      have h3 := h i hi
      simp only [perB, Bool.and_eq_true, Bool.not_eq_true', decide_eq_false_iff_not] at h3
      omega
    rw [this]
    rfl
  | false =>
    by_cases hex : ∃ j, j < k ∧ f j = f k
    · obtain ⟨j, hj, e⟩ := hex
      rw [← e, nmF_at h j hj]
      simp
    · rw [allB_true (fun j hj => by rw [decide_eq_false (fun e => hex ⟨j, hj, e⟩)]; rfl)] at hs
      cases hs
def InvPost (n m : Nat) (f : Nat → Int) (w : World) (e : Ending) (w' : World) : Prop :=
  (ordB n m f = true ∧ ∃ g, e = .returned (.tuple #[.slice (some ⟨g, 0, none⟩) n n, .bool true]) ∧ w.heap.size ≤ g ∧ RowZ w' g n (nmF f m) ∧ Below w.heap.size w w') ∨
  (ordB n m f = false ∧ e = .returned (.tuple #[.slice none 0 0, .bool false]) ∧ Below w.heap.size w w')
theorem inverse_len (B : Option Addr) (n m d : Nat) (f : Nat → Int) (w : World) (_hn : n ≤ 40) (_hm : m ≤ 1000) (hne : m ≠ n) :
    Calls Tryz.prog 74 #[.slice B m d, .int .i64 (n : Int)] w (InvPost n m f w) := by
  have HO : Hid (ordB n m f = false) := by
    have : ((m : Int) == (n : Int)) = false := by simpa using fun h => hne (by omega)
    unfold ordB
    rw [this]
    exact Lib.hid rfl
  have hb : ((m : Int) != (n : Int)) = true := bne_iff_ne.2 (by omega)
  go_enter Tryz.func74, Tryz.ntmps74
  go_wp2_with fail
  go_ret2
  exact .inr ⟨HO.out, rfl, Below.refl _ _⟩
theorem inverse_same (B : Option Addr) (n d : Nat) (f : Nat → Int) (w : World) (hn : n ≤ 40) (hn1 : 1 ≤ n) (hB : Lin w B n f) :
    Calls Tryz.prog 74 #[.slice B n d, .int .i64 (n : Int)] w (InvPost n n f w) := by
  have HB := Lib.hid hB
  have HN := Lib.hid hn
  have HN1 := Lib.hid hn1
  have hb : ((n : Int) != (n : Int)) = false := by simp
  clear hB
  go_enter Tryz.func74, Tryz.ntmps74
  go_wp2_with fail
  have hb1 : Below w.heap.size w (w.alloc (.cells #[.int .i64 (-1)] 3)) := below_alloc _ _
  have hc0 : (w.alloc (.cells #[.int .i64 (-1)] 3)).cell? ⟨w.heap.size, 0, none⟩ = some (.int .i64 (-1)) := by simp [go_sem]
  have hlt0 : w.heap.size < (w.alloc (.cells #[.int .i64 (-1)] 3)).heap.size := by simp
  have HBA := Lib.hid hb1
  have HREP := Lib.hid (repz_any w.heap.size 1 n (-1) _ hn1 hn hc0 hlt0)
  clear hb1 hc0 hlt0
  (with_reducible refine HREP.out.mono ?_)
  rintro e w1 ⟨g, rfl, hg, hR, hB1⟩
  have HW : Hid (Below w.heap.size w w1) := Lib.hid (HBA.out.trans (hB1.mono HBA.out.size))
  have HG : Hid (w.heap.size ≤ g) := Lib.hid (Nat.le_trans HBA.out.size hg)
  have HR : Hid (RowZ w1 g n (nmF f 0)) := Lib.hid hR
  clear hg hR hB1 HREP HBA
  go_wp2_with fail
  go_loopw [18] (fun i wr => ∃ k : Nat, Hid (k ≤ n) ∧ i = .int .i64 (k : Int) ∧ Hid (∀ j, j < k → perB f n j = true) ∧ Hid (RowZ wr g n (nmF f k)) ∧ Hid (Below w.heap.size w wr)) (fun i _ => n - (intOf i).toNat)
  case atStart => exact ⟨0, Nat.zero_le _, rfl, Lib.hid (fun i hi => absurd hi (by omega)), HR, HW⟩
  case round =>
    clear HR HW
    obtain ⟨k, hk, rfl, hv, hR, hB⟩ := hrel
    by_cases hlt : k < n
    · have hlt' : (k : Int) < (n : Int) := by omega
      obtain ⟨b, off, rfl, hbl, hc⟩ := HB.out.keep hB.out (by omega)
      have a0 := hc k hlt
      have HPB : Hid (perB f n k = (!(decide (f k < 0)) && !(decide ((n : Int) ≤ f k)) && allB (fun j => !(decide (f j = f k))) k)) := Lib.hid rfl
      have HSEEN : Hid (0 ≤ f k → decide (0 ≤ nmF f k (f k).toNat) = !(allB (fun j => !(decide (f j = f k))) k)) := Lib.hid (nmF_seen hv.out)
      have HSTEP : Hid (∀ x, nmF f (k + 1) x = if x = (f k).toNat then (k : Int) else nmF f k x) := Lib.hid fun x => rfl
      have HOF : Hid (∀ b, allB (fun j => !(decide (f j = f k))) k = b → perB f n k = (!(decide (f k < 0)) && !(decide ((n : Int) ≤ f k)) && b)) := Lib.hid fun b hb => by rw [HPB.out, hb]
      have HBAD : Hid (perB f n k = false → ordB n n f = false) := Lib.hid fun h => by unfold ordB; rw [allB_false hlt h]; simp
      clear hc
      generalize f k = fk at a0 HPB HSEEN HSTEP HOF
      by_cases g1 : fk < 0
      · have HE := Lib.hid (HBAD.out (by rw [HPB.out, decide_eq_true g1]; rfl))
        go_wp2_with fail
        go_ret2
        exact .inr ⟨HE.out, rfl, hB.out⟩
      · by_cases g2 : (n : Int) ≤ fk
        · have HE := Lib.hid (HBAD.out (by rw [HPB.out, decide_eq_true g2]; simp))
          go_wp2_with fail
          go_ret2
          exact .inr ⟨HE.out, rfl, hB.out⟩
        · obtain ⟨x, rfl⟩ := Int.eq_ofNat_of_zero_le (show 0 ≤ fk by omega)
          have hx : x < n := by omega
          have hse := HSEEN.out (by omega)
          rw [Int.toNat_natCast] at hse
          have r0 := hR.out.cell hx
          have f0 := hR.out.frozen x
          have HNX : Hid (nmF f k x = nmF f k x) := Lib.hid rfl
          have g2' : (x : Int) < (n : Int) := by omega
          cases hs : allB (fun j => !(decide (f j = (x : Int)))) k with
          | false =>
            rw [hs] at hse
            have HE := Lib.hid (HBAD.out (by rw [HOF.out _ hs]; simp))
            have hse' : 0 ≤ nmF f k x := of_decide_eq_true (by simpa using hse)
            generalize nmF f k x = y at r0 hse'
            clear hse hs
            go_wp2_with fail
            go_ret2
            exact .inr ⟨HE.out, rfl, hB.out⟩
          | true =>
            rw [hs] at hse
            have HV : Hid (∀ j, j < k + 1 → perB f n j = true) := Lib.hid fun j hj => by
              by_cases e : j = k
              · rw [e, HOF.out _ hs, decide_eq_false g1, decide_eq_false g2]; rfl
              · exact hv.out j (by omega)
            have HRR : Hid (RowZ (wr.setCell ⟨g, x, none⟩ (.int .i64 (k : Int))) g n (nmF f (k + 1))) := Lib.hid (World.rowIs.congr (hR.out.set x (k : Int)) fun j _ => by
              show Value.int .i64 (if j = x then (k : Int) else nmF f k j) = Value.int .i64 (nmF f (k + 1) j)
              rw [HSTEP.out j, Int.toNat_natCast])
            have HB2 := Lib.hid (hB.out.setCell (p := ⟨g, x, none⟩) HG.out (.int .i64 (k : Int)))
            have hse' : ¬ 0 ≤ nmF f k x := of_decide_eq_false (by simpa using hse)
            generalize nmF f k x = y at r0 hse'
            clear hse hs hv hR
            go_wp2_with fail
            exact ⟨⟨k + 1, Lib.hid (by omega), by rw [show ((k + 1 : Nat) : Int) = (k : Int) + 1 from by omega], HV, HRR, HB2⟩, by simp [intOf]; omega⟩
    · have hke : k = n := by have := hk.out; omega
      have hlt' : ¬ (k : Int) < (n : Int) := by omega
      subst hke
      have HE : Hid (ordB k k f = true) := by
        unfold ordB
        rw [allB_true hv.out]
        exact Lib.hid (by simp)
      go_wp2_with fail
      go_ret2
      exact .inl ⟨HE.out, g, rfl, HG.out, hR.out, hB.out⟩
theorem sumQ_swap {u v : Nat → Rat} {p : Nat} : ∀ {n : Nat}, p < n → (∀ i, i < n → i ≠ p → u i = v i) → sumQ u n + v p = sumQ v n + u p
  | 0, hp, _ => absurd hp (by omega)
  | n + 1, hp, h => by
    rw [sumQ_succ, sumQ_succ]
    by_cases e : p = n
    · subst e
      rw [sumQ_congr (f := u) (g := v) (fun i hi => h i (by omega) (by omega)), Rat.add_assoc, Rat.add_assoc, Rat.add_comm (u p) (v p)]
    · have ih := sumQ_swap (n := n) (p := p) (u := u) (v := v) (by omega) (fun i hi hne => h i (by omega) hne)
      rw [h n (by omega) (fun q => e q.symm), Rat.add_assoc, Rat.add_comm (v n) (v p), ← Rat.add_assoc, ih, Rat.add_assoc, Rat.add_comm (u p) (v n), ← Rat.add_assoc]
theorem sumQ_perm : ∀ (n : Nat) (f : Nat → Nat) (F : Nat → Rat), (∀ i, i < n → f i < n) → (∀ i j, i < n → j < n → f i = f j → i = j) → sumQ (fun i => F (f i)) n = sumQ F n
  | 0, _, _, _, _ => rfl
  | n + 1, f, F, hf, hi => by
    have key : ∀ i, i < n → f i = n → f n < n := fun i hin e => by
      have h1 := hf n (by omega)
      have h2 : f n ≠ n := fun e2 => by have := hi i n (by omega) (by omega) (by rw [e, e2]); omega
      omega
    have ih := sumQ_perm n (fun i => if f i = n then f n else f i) F
      (fun i hin => by
        show (if f i = n then f n else f i) < n
        have h1 := hf i (by omega)
        split
        · exact key i hin (by assumption)
        · omega)
      (fun i j hin hjn e => by
        have e' : (if f i = n then f n else f i) = (if f j = n then f n else f j) := e
        split at e' <;> split at e'
        · exact hi i j (by omega) (by omega) (by omega)
        · have := hi n j (by omega) (by omega) e'; omega
        · have := hi i n (by omega) (by omega) e'; omega
        · exact hi i j (by omega) (by omega) e')
    rw [sumQ_succ, sumQ_succ]
    by_cases e : f n = n
    · rw [e, ← ih]
      congr 1
      refine sumQ_congr fun i hin => ?_
      have : f i ≠ n := fun e2 => by have := hi i n (by omega) (by omega) (by rw [e, e2]); omega
      show F (f i) = F (if f i = n then f n else f i)
      rw [if_neg this]
    · have hex : ∃ p, p < n ∧ f p = n := by
        by_cases hx : ∃ p, p < n ∧ f p = n
        · exact hx
        · have := pigeon n (n + 1) f (fun i hin => by
            have h1 := hf i hin
            rcases Nat.lt_or_ge (f i) n with r | r
            · exact r
            · have e2 : f i = n := by omega
              rcases Nat.lt_or_ge i n with r2 | r2
              · exact absurd ⟨i, r2, e2⟩ hx
              · have : i = n := by omega
                subst this
                exact absurd e2 e) hi
          omega
      obtain ⟨p, hp, ep⟩ := hex
      have hs := sumQ_swap (u := fun i => F (f i)) (v := fun i => F (if f i = n then f n else f i)) (p := p) (n := n) hp (fun i hin hne => by
        have : f i ≠ n := fun e2 => hne (hi i p (by omega) (by omega) (by rw [e2, ep]))
        show F (f i) = F (if f i = n then f n else f i)
        rw [if_neg this])
      simp only [ep, if_true] at hs
      rw [hs, ih]
theorem ReC.valid {ns : Nat} {nm : Nat → Int} {h h' : ChV} (H : ReC nm h h') (hin : ∀ j, j < h.n → 0 ≤ nm (h.tw j).toNat ∧ nm (h.tw j).toNat < (ns : Int)) (hb : chB ns h = true) : chB ns h' = true := by
  obtain ⟨a1, a2, a3, a4, a5, a6⟩ := H
  have hv := chB_vld hb
  have hbs := chB_bs hb
  have hn := bsB_n hbs
  have hx : ∀ a, ∃ j, a < h'.n → j < h.n ∧ ReB nm h h' j a := fun a => by
    by_cases ha : a < h'.n
    · obtain ⟨j, hj, hr⟩ := a6 a ha
      exact ⟨j, fun _ => ⟨hj, hr⟩⟩
    · exact ⟨0, fun h => absurd h ha⟩
  obtain ⟨f, hf⟩ := Classical.skolem.1 hx
  have hinj : ∀ a b, a < h'.n → b < h'.n → f a = f b → a = b := fun a b ha hb e => by
    have e1 := (hf a ha).2.1
    have e2 := (hf b hb).2.1
    exact a4.inj ha hb (by rw [e1, e2, e])
  have hsum : chSum h'.ct h'.cl h'.n = chSum h.ct h.cl h.n := by
    unfold chSum
    rw [sumQ_congr (g := fun a => (fun i => fr (h.ct i) (h.cl i)) (f a)) (fun a ha => by
      show fr (h'.ct a) (h'.cl a) = fr (h.ct (f a)) (h.cl (f a))
      rw [(hf a ha).2.2.1, (hf a ha).2.2.2]), ← a3]
    exact sumQ_perm h'.n f (fun i => fr (h.ct i) (h.cl i)) (fun a ha => by rw [a3]; exact (hf a ha).1) hinj
  have hold : chSum h.ct h.cl h.n = 1 := by
    have h1 := hbs
    simp only [bsB, Bool.and_eq_true, decide_eq_true_eq] at h1
    exact h1.2
  have hall : ∀ a, a < h'.n → brB ns h'.tw h'.ct h'.cl a = true := fun a ha => by
    obtain ⟨hj, e1, e2, e3⟩ := hf a ha
    obtain ⟨b1, b2, b3, b4⟩ := brB_open (bsB_br hbs hj)
    have h1 := hin _ hj
    rw [← e1] at h1
    rw [← e2, ← e3] at b3
    rw [← e2] at b4
    unfold brB
    rw [decide_eq_false (by omega : ¬ h'.tw a < 0), decide_eq_false (by omega : ¬ (ns : Int) ≤ h'.tw a), b3, decide_eq_false (by omega : ¬ h'.ct a ≤ 0)]
    rcases Nat.eq_zero_or_pos a with h0 | h0
    · subst h0; rfl
    · have := a4 (a - 1) a (by omega) ha
      rw [decide_eq_false (by omega : ¬ h'.tw a ≤ h'.tw (a - 1)), Bool.and_false]
      rfl
  unfold chB
  rw [a1, a2, hv, bsB_end (by omega) (by omega) hall, hsum, hold]
  rfl
theorem ReS.valid {ns : Nat} {nm : Nat → Int} {s s' : StV} (H : ReS nm s s') (hin : ∀ k, k < s.n → ∀ j, j < (s.ch k).n → 0 ≤ nm ((s.ch k).tw j).toNat ∧ nm ((s.ch k).tw j).toNat < (ns : Int)) (hb : stB ns s = true) : stB ns s' = true := by
  obtain ⟨a1, a2, a3, a4⟩ := H
  have h1 : allB (fun j => chB ns (s'.ch j)) s'.n = true := allB_true fun j hj => (a4 j (by omega)).valid (hin j (by omega)) (stB_ch hb (by omega))
  have h2 := hb
  simp only [stB, Bool.and_eq_true] at h2 ⊢
  rw [a1, a2, h1, a3]
  exact ⟨h2.1, rfl⟩
theorem nm_range {f : Nat → Int} {n : Nat} (hp : ∀ i, i < n → perB f n i = true) {x : Nat} (hx : x < n) : 0 ≤ nmF f n x ∧ nmF f n x < (n : Int) ∧ f (nmF f n x).toNat = (x : Int) := by
  have hin : ∀ i, i < n → 0 ≤ f i ∧ f i < (n : Int) := fun i hi => by
    have := hp i hi
    simp only [perB, Bool.and_eq_true, Bool.not_eq_true', decide_eq_false_iff_not] at this
    omega
  have hinj : ∀ i j, i < n → j < n → (f i).toNat = (f j).toNat → i = j := fun i j hi hj e => by
    have e1 := nmF_at hp i hi
    have e2 := nmF_at hp j hj
    rw [e, e2] at e1
    omega
  have hex : ∃ i, i < n ∧ (f i).toNat = x := by
    by_cases hh : ∃ i, i < n ∧ (f i).toNat = x
    · exact hh
    · have hne : ∀ i, i < n → (f i).toNat ≠ x := fun i hi e => hh ⟨i, hi, e⟩
      have := pigeon (n - 1) n (fun i => if (f i).toNat < x then (f i).toNat else (f i).toNat - 1)
        (fun i hi => by
          show (if (f i).toNat < x then (f i).toNat else (f i).toNat - 1) < n - 1
          have h1 := hin i hi
          have h2 := hne i hi
          split <;> omega)
        (fun i j hi hj e => by
          have e' : (if (f i).toNat < x then (f i).toNat else (f i).toNat - 1) = (if (f j).toNat < x then (f j).toNat else (f j).toNat - 1) := e
          have h2 := hne i hi
          have h3 := hne j hj
          refine hinj i j hi hj ?_
          split at e' <;> split at e' <;> omega)
      omega
  obtain ⟨i, hi, e⟩ := hex
  have h1 := nmF_at hp i hi
  rw [e] at h1
  have h2 := hin i hi
  rw [h1]
  refine ⟨by omega, by omega, ?_⟩
  show f ((i : Int)).toNat = _
  rw [Int.toNat_natCast]
  omega
theorem nm_inj {f : Nat → Int} {n : Nat} (hp : ∀ i, i < n → perB f n i = true) {x y : Nat} (hx : x < n) (hy : y < n) (e : nmF f n x = nmF f n y) : x = y := by
  have h1 := (nm_range hp hx).2.2
  have h2 := (nm_range hp hy).2.2
  rw [e, h2] at h1
  omega
theorem inv_per {f : Nat → Int} {n : Nat} (hp : ∀ i, i < n → perB f n i = true) : ∀ i, i < n → perB (nmF f n) n i = true := fun i hi => by
  have h := nm_range hp hi
  unfold perB
  rw [decide_eq_false (by omega : ¬ nmF f n i < 0), decide_eq_false (by omega : ¬ (n : Int) ≤ nmF f n i), allB_true (fun j hj => by
    have : ¬ nmF f n j = nmF f n i := fun e => by have := nm_inj hp (by omega) hi e; omega
    rw [decide_eq_false this]; rfl)]
  rfl
theorem inv_nm {f : Nat → Int} {n : Nat} (hp : ∀ i, i < n → perB f n i = true) {x : Nat} (hx : x < n) : nmF (nmF f n) n x = f x := by
  have h0 : 0 ≤ f x ∧ f x < (n : Int) := by
    have := hp x hx
    simp only [perB, Bool.and_eq_true, Bool.not_eq_true', decide_eq_false_iff_not] at this
    omega
  have h1 := nmF_at (inv_per hp) (f x).toNat (by omega)
  rw [nmF_at hp x hx, Int.toNat_natCast] at h1
  rw [h1]
  omega
theorem ReS.back {ns : Nat} {nm nm' : Nat → Int} {s s1 : StV} (hv : stB ns s = true) (hback : ∀ x, x < ns → nm' (nm x).toNat = (x : Int)) (H : ReS nm s s1) : ReS nm' s1 s :=
  ⟨H.1.symm, H.2.1.symm, H.2.2.1.symm, fun j hj => by
    have hj' : j < s.n := by have := H.2.2.1; omega
    obtain ⟨hi, hin⟩ := bs_inc (chB_bs (stB_ch hv hj'))
    exact (H.2.2.2 j hj').back hin hback hi⟩
theorem there_back {n : Nat} {f : Nat → Int} {st stP stB' : Nat → StV} (hm : moB n st = true) (hp : ∀ i, i < n → perB f n i = true) (hP : ∀ i, i < n → ReS (nmF f n) (st (f i).toNat) (stP i))
    (hB : ∀ i, i < n → ReS (nmF (nmF f n) n) (stP (nmF f n i).toNat) (stB' i)) : ∀ i, i < n → StL (stB' i) (st i) := by
  intro i hi
  obtain ⟨r0, r1, r2⟩ := nm_range hp hi
  have hk : (nmF f n i).toNat < n := by omega
  have h1 := hP _ hk
  rw [r2, Int.toNat_natCast] at h1
  have h2 := hB i hi
  have hv := moB_st hm hi
  have hback : ∀ x, x < n → nmF (nmF f n) n (nmF f n x).toNat = (x : Int) := fun x hx => by
    obtain ⟨q0, q1, q2⟩ := nm_range hp hx
    rw [inv_nm hp (by omega), q2]
  refine ReS.uniq (fun k hk' a b ha hb e => ?_) h2 (h1.back hv hback)
  have hks : k < (st i).n := by have := h1.2.2.1; omega
  obtain ⟨hin, hrange⟩ := bs_inc (chB_bs (stB_ch hv hks))
  exact (h1.2.2.2 k hks).back_inj hrange hback hin a b ha hb e
theorem moB_ren {n : Nat} {f : Nat → Int} {st stP : Nat → StV} (hm : moB n st = true) (hp : ∀ i, i < n → perB f n i = true) (hP : ∀ i, i < n → ReS (nmF f n) (st (f i).toNat) (stP i)) : moB n stP = true := by
  have h := moB_n hm
  unfold moB
  rw [decide_eq_false (by omega : ¬ (n : Int) < 1), decide_eq_false (by omega : ¬ (40 : Int) < (n : Int)), allB_true (fun i hi => ?_)]
  · rfl
  · have h0 : 0 ≤ f i ∧ f i < (n : Int) := by
      have := hp i hi
      simp only [perB, Bool.and_eq_true, Bool.not_eq_true', decide_eq_false_iff_not] at this
      omega
    have hv := moB_st hm (i := (f i).toNat) (by omega)
    refine (hP i hi).valid (fun k hk j hj => ?_) hv
    have hr := (bs_inc (chB_bs (stB_ch hv hk))).2 j hj
    obtain ⟨q0, q1, -⟩ := nm_range hp hr.2
    exact ⟨q0, q1⟩
theorem brE_like {h h' : ChV} (H : ChLk h h') {i : Nat} (hi : i < h'.n) : brE h h' i = true := by
  obtain ⟨a, b, c⟩ := H.2.2.2 i hi
  unfold brE
  rw [a, b, c]
  simp
theorem chE_like {h h' : ChV} (H : ChLk h h') : chE h h' = true := by
  unfold chE
  rw [H.1, H.2.1, H.2.2.1, allB_true (fun i hi => brE_like H hi)]
  simp
theorem stE_like {s s' : StV} (H : StL s s') : stE s s' = true := by
  unfold stE
  rw [H.1, H.2.1, H.2.2.1, allB_true (fun i hi => chE_like (H.2.2.2 i hi))]
  simp
theorem moE_like {n : Nat} {st st' : Nat → StV} (H : ∀ i, i < n → StL (st i) (st' i)) : moE n n st st' = true := by
  unfold moE
  rw [allB_true (fun i hi => stE_like (H i hi))]
  simp
theorem szs_like {n : Nat} {st st' : Nat → StV} (H : ∀ i, i < n → StL (st i) (st' i)) (hs : Szs n st') : Szs n st := by
  refine ⟨hs.1, fun i hi => ?_, fun i j hi hj => ?_⟩
  · rw [(H i hi).2.2.1]; exact hs.2.1 i hi
  · have hj' : j < (st' i).n := by rw [← (H i hi).2.2.1]; exact hj
    rw [((H i hi).2.2.2 j hj').2.2.1]
    exact hs.2.2 i j hi hj'
theorem szs_ren {n : Nat} {f : Nat → Int} {nm : Nat → Int} {st st1 : Nat → StV} (hs : Szs n st) (hf : ∀ i, i < n → (f i).toNat < n) (h : ∀ i, i < n → ReS nm (st (f i).toNat) (st1 i)) : Szs n st1 :=
  ⟨hs.1, fun i hi => by rw [(h i hi).2.2.1]; exact hs.2.1 _ (hf i hi), fun i j hi hj => by
    have hj' : j < (st (f i).toNat).n := by have := (h i hi).2.2.1; omega
    rw [((h i hi).2.2.2 j hj').2.2.1]
    exact hs.2.2 _ _ (hf i hi) hj'⟩
theorem per_in {f : Nat → Int} {n : Nat} (hp : ∀ i, i < n → perB f n i = true) : ∀ i, i < n → 0 ≤ f i ∧ f i < (n : Int) := fun i hi => by
  have := hp i hi
  simp only [perB, Bool.and_eq_true, Bool.not_eq_true', decide_eq_false_iff_not] at this
  omega
theorem ren_same {n : Nat} {f : Nat → Int} {st s1 s2 : Nat → StV} (hM : moB n st = true) (hp : ∀ i, i < n → perB f n i = true) (h1 : ∀ i, i < n → ReS (nmF f n) (st (f i).toNat) (s1 i)) (h2 : ∀ i, i < n → ReS (nmF f n) (st (f i).toNat) (s2 i)) : ∀ i, i < n → StL (s1 i) (s2 i) := fun i hi => by
  have hin := per_in hp i hi
  have hv := moB_st hM (i := (f i).toNat) (by omega)
  refine ReS.uniq (fun k hk a b ha hb e => ?_) (h1 i hi) (h2 i hi)
  obtain ⟨hinc, hr⟩ := bs_inc (chB_bs (stB_ch hv hk))
  have h3 := nm_inj hp (hr a ha).2 (hr b hb).2 e
  have h4 := (hr a ha).1
  have h5 := (hr b hb).1
  exact hinc.inj ha hb (by omega)
def zmF (f : Nat → Int) : Nat → Nat → Int
  | 0 => fun _ => 0
  | k + 1 => fun x => if x = (f k).toNat then (k : Int) else zmF f k x
theorem zm_nm (f : Nat → Int) : ∀ (k x : Nat), 0 ≤ nmF f k x → zmF f k x = nmF f k x
  | 0, x, h => absurd h (by show ¬ (0 : Int) ≤ -1; decide)
  | k + 1, x, h => by
    show (if x = (f k).toNat then (k : Int) else zmF f k x) = (if x = (f k).toNat then (k : Int) else nmF f k x)
    by_cases e : x = (f k).toNat
    · rw [if_pos e, if_pos e]
    · rw [if_neg e, if_neg e]
      refine zm_nm f k x ?_
      have h2 : 0 ≤ (if x = (f k).toNat then (k : Int) else nmF f k x) := h
      rw [if_neg e] at h2
      exact h2
theorem zm_end {f : Nat → Int} {n : Nat} (hp : ∀ i, i < n → perB f n i = true) {x : Nat} (hx : x < n) : zmF f n x = nmF f n x := zm_nm f n x (nm_range hp hx).1
theorem inv_ord {f : Nat → Int} {n : Nat} (hp : ∀ i, i < n → perB f n i = true) : ordB n n (nmF f n) = true := by
  unfold ordB
  rw [allB_true (inv_per hp)]
  simp
theorem ident_like {w : World} {A B : Option Addr} {n c d : Nat} {st st' : Nat → StV} (hA : Lst w A n st) (hB : Lst w B n st') (h : ∀ i, i < n → StL (st i) (st' i)) (hs : Szs n st) (hs' : Szs n st') :
    Calls Tryz.prog 23 #[.agg #[.slice A n c], .agg #[.slice B n d]] w fun e w' => e = .returned (.bool true) ∧ Below w.heap.size w w' := by
  have := rident_any A B n c n d st st' w hA hB hs hs'
  rw [moE_like h] at this
  exact this
theorem ident_none (w : World) : Calls Tryz.prog 23 #[.agg #[.slice none 0 0], .agg #[.slice none 0 0]] w fun e w' => e = .returned (.bool true) ∧ Below w.heap.size w w' :=
  ident_like (st := fun _ => st0) (st' := fun _ => st0) ⟨fun h => absurd h (by omega), fun i hi => absurd hi (by omega)⟩ ⟨fun h => absurd h (by omega), fun i hi => absurd hi (by omega)⟩ (fun i hi => absurd hi (by omega)) ⟨by omega, fun i hi => absurd hi (by omega), fun i j hi => absurd hi (by omega)⟩ ⟨by omega, fun i hi => absurd hi (by omega), fun i j hi => absurd hi (by omega)⟩
theorem cisnan_any (x : Int) (w : World) : Calls Tryz.prog 133 #[.int .i64 x] w fun e w' => e = .returned (.bool false) ∧ w' = w := by
  go_enter Tryz.func133, Tryz.ntmps133
  go_wp2
  go_ret
  exact ⟨by simp, rfl⟩
end Go.Proofs.YtmfnpipmbpnfbaaGreatDoor
