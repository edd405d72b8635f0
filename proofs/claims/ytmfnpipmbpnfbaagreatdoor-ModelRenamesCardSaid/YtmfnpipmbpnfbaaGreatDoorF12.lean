/- The difference of two lists of digits in memory, for the second at most the first. -/
import Derived.Test.YtmfnpipmbpnfbaaGreatDoorF01
import Derived.Deep.RegionWith
import Derived.BigRegion
import Derived.Test.YtmfnpipmbpnfbaaGreatDoorF11

set_option maxRecDepth 100000
set_option maxHeartbeats 40000000
namespace Go.Proofs.YtmfnpipmbpnfbaaGreatDoor
open Go.RowKit
def SubRel (w : World) (n m : Nat) (f g : Nat → Nat) (borrow i : Value) (wr : World) : Prop :=
  ∃ (k d : Nat) (h : Nat → Nat), k ≤ n ∧ i = .int .i64 (k : Int) ∧ borrow = .int .u32 (d : Int) ∧ d ≤ 1 ∧ (∀ j, j < k → h j < W) ∧ V h k + V (ext g m) k = V f k + d * W ^ k ∧
    Row wr w.heap.size n h ∧ Below w.heap.size w wr
theorem subrel_start (w : World) (n m : Nat) (f g : Nat → Nat) : SubRel w n m f g (.int .u32 0) (.int .i64 0) (w.alloc (.cells (madeCells #[.int .u32 0] n) 193)) :=
  ⟨0, 0, fun _ => 0, Nat.zero_le _, rfl, rfl, by omega, fun j hj => by omega, by simp [V_zero], Row.new w n, (Below.refl _ _).alloc (Nat.le_refl _) _⟩
theorem subrel_step {w wr wd : World} {n m k d : Nat} {f g h : Nat → Nat} (hk : k < n) (hd : d ≤ 1) (hf : f k < W) (hg : ext g m k < W) (hh : ∀ j, j < k → h j < W)
    (hv : V h k + V (ext g m) k = V f k + d * W ^ k) (hrow : Row wr w.heap.size n h) (hbel : Below w.heap.size w wr) {a s t : Int} {i v : Value}
    (hs : s = ((f k : Nat) : Int) - ((ext g m k : Nat) : Int) - (d : Int)) (ht : t = ((ext g m k : Nat) : Int) + (d : Int)) (ha : a = (k : Int) + 1) (hi : i = .int .i64 a)
    (hw : wd = (wr.setCell ⟨w.heap.size, k, none⟩ (.int .u32 (s % 4294967296))).drew) (hb : v = .int .u32 (bor ((f k : Nat) : Int) t)) :
    SubRel w n m f g v i wd := by
  subst hs ht ha hi hw hb
  have hf2 : f k < 4294967296 := hf
  have hg2 : ext g m k < 4294967296 := hg
  obtain ⟨r, hr⟩ := Int.eq_ofNat_of_zero_le (show 0 ≤ (((f k : Nat) : Int) - ((ext g m k : Nat) : Int) - (d : Int)) % 4294967296 by omega)
  obtain ⟨e, he⟩ := Int.eq_ofNat_of_zero_le (bor_01 ((f k : Nat) : Int) (((ext g m k : Nat) : Int) + (d : Int))).1
  have he1 : e ≤ 1 := by have := (bor_01 ((f k : Nat) : Int) (((ext g m k : Nat) : Int) + (d : Int))).2; omega
  have hre : r + ext g m k + d = f k + e * W := by
    unfold bor at he
    rw [W_eq]
    split at he <;> omega
  have hrW : r < W := by rw [W_eq]; omega
  rw [hr, he]
  refine ⟨k + 1, e, up h k r, by omega, by rw [show ((k + 1 : Nat) : Int) = (k : Int) + 1 from by omega], rfl, he1, ?_, ?_, (hrow.set k _).drew, (hbel.setCell (Nat.le_refl _) _).drew⟩
  · intro j hj
    by_cases e : j = k
    · rw [e, up_at]; exact hrW
    · rw [up_far h _ e]; exact hh j (by omega)
  · rw [V_succ, V_succ, V_succ, up_at, V_up_below h _ (Nat.le_refl k)]
    exact sub_step _ _ hv hre
theorem subrel_end {n m k d : Nat} {f g h : Nat → Nat} (hk : k = n) (hm : m ≤ n) (hh : ∀ j, j < k → h j < W) (hle : V g m ≤ V f n)
    (hv : V h k + V (ext g m) k = V f k + d * W ^ k) : V h n = V f n - V g m := by
  subst hk
  rw [V_ext hm] at hv
  have b1 := V_lt hh
  rcases Nat.eq_zero_or_pos d with h0 | h0
  · subst h0; omega
  · have := Nat.mul_le_mul_right (W ^ k) h0
    omega
theorem sub_any (A B : Option Addr) (n m ca cb : Nat) (f g : Nat → Nat) (w : World) (hn : n ≤ 1000000) (hm : m ≤ n) (hA : Dg w A n f) (hB : Dg w B m g)
    (hf : ∀ i, i < n → f i < W) (hg : ∀ i, i < m → g i < W) (hle : V g m ≤ V f n) :
    Calls Tryz.prog 245 #[.slice A n ca, .slice B m cb] w (RetD (V f n - V g m) w) := by
  have hmk := make_row n (by omega)
  have HF := Lib.hid hf
  have HG := Lib.hid hg
  have HL := Lib.hid hle
  clear hf hg hle
  go_enter Tryz.func245, Tryz.ntmps245
  go_wp2_with fail
  clear hmk
  go_loopw [6, 13] (fun c i wr => SubRel w n m f g c i wr) (fun _ i _ => n - (intOf i).toNat)
  case atStart => exact subrel_start w n m f g
  case round =>
    obtain ⟨k, d, h, hk, rfl, rfl, hd, hh, hv, hrow, hbel⟩ := hrel
    have HH := Lib.hid hh
    have HV := Lib.hid hv
    clear hh hv
    by_cases hlt : k < n
    · obtain ⟨b, off, rfl, hb, hcells⟩ := (hA.keep hbel) (by omega)
      have hc1 := hcells k hlt
      have hB1 : Dg wr B m g := hB.keep hbel
      have b1 : f k < 4294967296 := HF.out k hlt
      have b2 := ext_lt HG.out k
      have hcell := hrow.cell hlt
      have hfr := hrow.frozen k
      clear hcells
      go_wp2_with fail
      go_region_with (first | ((with_reducible refine (at_any B m cb g (k : Int) _ (by omega) (by omega) (by omega) (Dg.drew hB1)).mono ?_); rintro e w' ⟨rfl, rfl⟩) | ((with_reducible refine (sub32_any _ _ _ _ (by omega) (by omega) (by omega) (by omega) (by omega) (by omega)).mono ?_); rintro e w' ⟨rfl, rfl⟩))
      all_goals go_wp2_with fail
      all_goals exact ⟨subrel_step hlt hd (HF.out k hlt) b2 HH.out HV.out hrow hbel rfl rfl rfl rfl rfl rfl, by simp [intOf]; omega⟩
    · have hke : k = n := by omega
      have HE := Lib.hid (subrel_end hke hm HH.out HL.out HV.out)
      have HD := Lib.hid (hrow.dg (Nat.le_refl _))
      have HH2 : Hid (∀ j, j < n → h j < W) := by have := HH.out; rw [hke] at this; exact this
      clear hke HV HH
      go_wp2_with ((with_reducible refine (trim_any _ _ _ h _ (Nat.le_refl _) (by omega) HD.out).mono ?_); rintro e w' ⟨q, rfl, hq, hN, hQ, rfl⟩)
      go_ret
      refine ⟨_, rfl, ⟨_, q, _, h, rfl, by omega, fun i hi => HH2.out i (by omega), hN, hQ.trans HE.out, ?_, hrow.tt _⟩, hbel⟩
      intro h0
      obtain ⟨b, off, e1, e2, e3⟩ := HD.out (by omega)
      exact ⟨b, off, e1, e2, fun i hi => e3 i (by omega)⟩
theorem addD_any (A B : Option Addr) (n m c d x y : Nat) (w : World) (h1 : D w (.slice A n c) x) (h2 : D w (.slice B m d) y) (hn : n ≤ 400000) (hm : m ≤ 400000) :
    Calls Tryz.prog 244 #[.slice A n c, .slice B m d] w (RetD (x + y) w) := by
  obtain ⟨f, f1, f2, f3, f4, f5⟩ := h1.open_
  obtain ⟨g, g1, g2, g3, g4, g5⟩ := h2.open_
  rw [← f4, ← g4]
  exact add_any A B n m c d f g w (by omega) (by omega) f5 g5 f2 g2
theorem subD_any (A B : Option Addr) (n m c d x y : Nat) (w : World) (h1 : D w (.slice A n c) x) (h2 : D w (.slice B m d) y) (hn : n ≤ 400000) (hle : y ≤ x) :
    Calls Tryz.prog 245 #[.slice A n c, .slice B m d] w (RetD (x - y) w) := by
  obtain ⟨f, f1, f2, f3, f4, f5⟩ := h1.open_
  obtain ⟨g, g1, g2, g3, g4, g5⟩ := h2.open_
  subst f4 g4
  exact sub_any A B n m c d f g w (by omega) (len_of_lt g3 (Nat.lt_of_le_of_lt hle (V_lt f2))) f5 g5 f2 g2 hle
theorem compD_any (A B : Option Addr) (n m c d x y : Nat) (w : World) (h1 : D w (.slice A n c) x) (h2 : D w (.slice B m d) y) (hn : n ≤ 400000) :
    Calls Tryz.prog 217 #[.slice A n c, .slice B m d] w fun e w' => e = .returned (.int .i64 (cmpI x y)) ∧ Drn w w' := by
  obtain ⟨f, f1, f2, f3, f4, f5⟩ := h1.open_
  obtain ⟨g, g1, g2, g3, g4, g5⟩ := h2.open_
  rw [← f4, ← g4]
  exact comp_any A B n m c d f g w (by omega) f5 g5 f2 g2 f3 g3
theorem pow_add_lt {x y n m : Nat} (hx : x < W ^ n) (hy : y < W ^ m) : x + y < W ^ (n + m + 1) := by
  have h1 := pow_le (show n ≤ n + m by omega)
  have h2 := pow_le (show m ≤ n + m by omega)
  have h3 : W ^ (n + m + 1) = 4294967296 * W ^ (n + m) := by rw [pow_succ', Nat.mul_comm]; rfl
  omega
theorem sgn_add_same (b : Bool) (x y : Nat) : sgn b x + sgn b y = sgn b (x + y) := by cases b <;> simp [sgn] <;> omega
theorem sgn_add_lt (b : Bool) (x y : Nat) (h : x < y) : sgn b x + sgn (!b) y = sgn (!b) (y - x) := by cases b <;> simp [sgn] <;> omega
theorem sgn_add_ge (b : Bool) (x y : Nat) (h : y ≤ x) : sgn b x + sgn (!b) y = sgn b (x - y) := by cases b <;> simp [sgn] <;> omega
theorem addI_same (b : Bool) (A B : Option Addr) (n m c d x y : Nat) (w : World) (h1 : D w (.slice A n c) x) (h2 : D w (.slice B m d) y) (hn : n ≤ 400000) (hm : m ≤ 400000) :
    Calls Tryz.prog 216 #[.agg #[.bool b, .slice A n c], .agg #[.bool b, .slice B m d]] w (RetJ (sgn b (x + y)) w) := by
  have HM : Hid (∀ wx, Below w.heap.size w wx → Calls Tryz.prog 244 #[.slice A n c, .slice B m d] wx (RetD (x + y) wx)) := fun wx hx => addD_any A B n m c d x y wx (h1.keep hx) (h2.keep hx) hn hm
  have HXY := Lib.hid (pow_add_lt h1.pow h2.pow)
  clear h1 h2
  go_enter Tryz.func216, Tryz.ntmps216
  go_wp2_with fail
  go_region_held3 (fun w' => w'.cell? ⟨w.heap.size, 0, none⟩ = some (.bool b) ∧ w'.cell? ⟨w.heap.size, 1, none⟩ = some (.slice A n c) ∧ w'.cell? ⟨w.heap.size + 1, 0, none⟩ = some (.bool b) ∧ w'.cell? ⟨w.heap.size + 1, 1, none⟩ = some (.slice B m d)) (simp [go_sem, World.cell?_alloc_past, *])
    (first
      | (go_at_call 244; (with_reducible refine (HM.out _ (by repeat (first | exact Below.refl _ _ | refine Below.drew ?_ | refine Below.alloc ?_ (by simp <;> omega) _))).mono ?_); rintro e w1 ⟨v, rfl, hD, hB⟩; obtain ⟨A1, n1, c1, rfl⟩ := hD.shape; obtain ⟨hc, hf⟩ := bcell hB; have hn1 := hD.len HXY.out; obtain ⟨z0, z1, z2⟩ := szs (k := w.heap.size) hB (by simp))
      | (go_at_call 242; (with_reducible refine (signed_any _ _ _ _ _ _ (by assumption) (by omega)).mono ?_); rintro e w2 ⟨A2, n2, c2, rfl, hD2, hB2⟩; obtain ⟨hc2, hf2⟩ := bcell hB2; obtain ⟨y0, y1, y2⟩ := szs (k := w.heap.size) hB2 (by (try simp); omega)))
  all_goals go_wp2_with fail
  obtain ⟨bx, bb⟩ := box3 w (.cells #[.bool b, .slice A n c] 183) (.cells #[.bool b, .slice B m d] 183) #[.bool false, .slice none 0 0] 183
  have hB := below_undrew' hB
  have b1w : Below w.heap.size w w1 := bb.trans (hB.mono bb.size)
  exact bodyPost_ret (v := .agg #[.bool (decide (sgn b (x + y) < 0)), .slice A2 n2 c2]) (by simp [results, Tryz.results216, go_sem, *]) rfl
    (retJ_box rfl hD2 ((bx.keep hB).keep hB2) (b1w.trans (hB2.mono b1w.size)) (by omega))
theorem Drn.n (w : World) (q : Nat) : Drn w (w.drewN q) := ⟨q, rfl⟩
theorem below_undrewN {X w : World} {q : Nat} (h : Below (X.drewN q).heap.size (X.drewN q) w) : Below X.heap.size X w := ⟨h.os, h.tape, h.output, h.size, h.block⟩
theorem below_undrewN1 {X w : World} {q : Nat} (h : Below (X.drewN q).drew.heap.size (X.drewN q).drew w) : Below X.heap.size X w := ⟨h.os, h.tape, h.output, h.size, h.block⟩
theorem addI_lt_false (A B : Option Addr) (n m c d x y : Nat) (w : World) (h1 : D w (.slice A n c) x) (h2 : D w (.slice B m d) y) (hn : n ≤ 400000) (hm : m ≤ 400000) (hxy : x < y) :
    Calls Tryz.prog 216 #[.agg #[.bool false, .slice A n c], .agg #[.bool true, .slice B m d]] w (RetJ (sgn true (y - x)) w) := by
  have HC : Hid (∀ wx, Below w.heap.size w wx → Calls Tryz.prog 217 #[.slice A n c, .slice B m d] wx fun e w' => e = .returned (.int .i64 (cmpI x y)) ∧ Drn wx w') := fun wx hx => compD_any A B n m c d x y wx (h1.keep hx) (h2.keep hx) hn
  have HM : Hid (∀ wx, Below w.heap.size w wx → Calls Tryz.prog 245 #[.slice B m d, .slice A n c] wx (RetD (y - x) wx)) := fun wx hx => subD_any B A m n d c y x wx (h2.keep hx) (h1.keep hx) hm (by omega)
  have HXY : Hid (y - x < W ^ m) := Nat.lt_of_le_of_lt (Nat.sub_le _ _) h2.pow
  have HCI : Hid (cmpI (x : Int) (y : Int) = -1) := cmpI_lt (by omega)
  rw [HCI.out] at HC
  clear h1 h2 hxy
  obtain ⟨bx, bb⟩ := box3 w (.cells #[.bool false, .slice A n c] 183) (.cells #[.bool true, .slice B m d] 183) #[.bool false, .slice none 0 0] 183
  have BX := Lib.hid bx
  have BB := Lib.hid bb
  clear bx bb
  go_enter Tryz.func216, Tryz.ntmps216
  go_wp2_with fail
  (with_reducible refine (HC.out _ BB.out).mono ?_)
  rintro e wq ⟨rfl, q, rfl⟩
  go_wp2_with fail
  go_region_held3 (fun w' => w'.cell? ⟨w.heap.size, 0, none⟩ = some (.bool false) ∧ w'.cell? ⟨w.heap.size, 1, none⟩ = some (.slice A n c) ∧ w'.cell? ⟨w.heap.size + 1, 0, none⟩ = some (.bool true) ∧ w'.cell? ⟨w.heap.size + 1, 1, none⟩ = some (.slice B m d)) (simp [go_sem, World.cell?_alloc_past, *])
    (first
      | (go_at_call 245; (with_reducible refine (HM.out _ (BB.out.trans (Drn.below (Drn.n _ _) _))).mono ?_); rintro e w1 ⟨v, rfl, hD, hB⟩; obtain ⟨A1, n1, c1, rfl⟩ := hD.shape; obtain ⟨hc, hf⟩ := bcell hB; have hn1 := hD.len HXY.out; obtain ⟨z0, z1, z2⟩ := szs (k := w.heap.size) hB (by simp))
      | (go_at_call 242; (with_reducible refine (signed_any _ _ _ _ _ _ (by assumption) (by omega)).mono ?_); rintro e w2 ⟨A2, n2, c2, rfl, hD2, hB2⟩; obtain ⟨hc2, hf2⟩ := bcell hB2; obtain ⟨y0, y1, y2⟩ := szs (k := w.heap.size) hB2 (by (try simp); omega)))
  all_goals go_wp2_with fail
  have hB : Below _ _ w1 := (by first | exact below_undrewN hB | exact below_undrewN1 hB)
  have b1w : Below w.heap.size w w1 := BB.out.trans (hB.mono BB.out.size)
  exact bodyPost_ret (v := .agg #[.bool (decide (sgn true (y - x) < 0)), .slice A2 n2 c2]) (by simp [results, Tryz.results216, go_sem, *]) rfl
    (retJ_box rfl hD2 ((BX.out.keep hB).keep hB2) (b1w.trans (hB2.mono b1w.size)) (by omega))
theorem addI_ge_false (A B : Option Addr) (n m c d x y : Nat) (w : World) (h1 : D w (.slice A n c) x) (h2 : D w (.slice B m d) y) (hn : n ≤ 400000) (_hm : m ≤ 400000) (hxy : ¬ x < y) :
    Calls Tryz.prog 216 #[.agg #[.bool false, .slice A n c], .agg #[.bool true, .slice B m d]] w (RetJ (sgn false (x - y)) w) := by
  have HC : Hid (∀ wx, Below w.heap.size w wx → Calls Tryz.prog 217 #[.slice A n c, .slice B m d] wx fun e w' => e = .returned (.int .i64 (cmpI x y)) ∧ Drn wx w') := fun wx hx => compD_any A B n m c d x y wx (h1.keep hx) (h2.keep hx) hn
  have HM : Hid (∀ wx, Below w.heap.size w wx → Calls Tryz.prog 245 #[.slice A n c, .slice B m d] wx (RetD (x - y) wx)) := fun wx hx => subD_any A B n m c d x y wx (h1.keep hx) (h2.keep hx) hn (by omega)
  have HXY : Hid (x - y < W ^ n) := Nat.lt_of_le_of_lt (Nat.sub_le _ _) h1.pow
  obtain ⟨r, hr, hr0⟩ := cmpI_ge (x := (x : Int)) (y := (y : Int)) (by omega)
  rw [hr] at HC
  have hr1 : decide (r < 0) = false := by simp; omega
  clear hr
  clear h1 h2 hxy
  obtain ⟨bx, bb⟩ := box3 w (.cells #[.bool false, .slice A n c] 183) (.cells #[.bool true, .slice B m d] 183) #[.bool false, .slice none 0 0] 183
  have BX := Lib.hid bx
  have BB := Lib.hid bb
  clear bx bb
  go_enter Tryz.func216, Tryz.ntmps216
  go_wp2_with fail
  (with_reducible refine (HC.out _ BB.out).mono ?_)
  rintro e wq ⟨rfl, q, rfl⟩
  go_wp2_with fail
  go_region_held3 (fun w' => w'.cell? ⟨w.heap.size, 0, none⟩ = some (.bool false) ∧ w'.cell? ⟨w.heap.size, 1, none⟩ = some (.slice A n c) ∧ w'.cell? ⟨w.heap.size + 1, 0, none⟩ = some (.bool true) ∧ w'.cell? ⟨w.heap.size + 1, 1, none⟩ = some (.slice B m d)) (simp [go_sem, World.cell?_alloc_past, *])
    (first
      | (go_at_call 245; (with_reducible refine (HM.out _ (BB.out.trans (Drn.below (Drn.n _ _) _))).mono ?_); rintro e w1 ⟨v, rfl, hD, hB⟩; obtain ⟨A1, n1, c1, rfl⟩ := hD.shape; obtain ⟨hc, hf⟩ := bcell hB; have hn1 := hD.len HXY.out; obtain ⟨z0, z1, z2⟩ := szs (k := w.heap.size) hB (by simp))
      | (go_at_call 242; (with_reducible refine (signed_any _ _ _ _ _ _ (by assumption) (by omega)).mono ?_); rintro e w2 ⟨A2, n2, c2, rfl, hD2, hB2⟩; obtain ⟨hc2, hf2⟩ := bcell hB2; obtain ⟨y0, y1, y2⟩ := szs (k := w.heap.size) hB2 (by (try simp); omega)))
  all_goals go_wp2_with fail
  have hB : Below _ _ w1 := (by first | exact below_undrewN hB | exact below_undrewN1 hB)
  have b1w : Below w.heap.size w w1 := BB.out.trans (hB.mono BB.out.size)
  exact bodyPost_ret (v := .agg #[.bool (decide (sgn false (x - y) < 0)), .slice A2 n2 c2]) (by simp [results, Tryz.results216, go_sem, *]) rfl
    (retJ_box rfl hD2 ((BX.out.keep hB).keep hB2) (b1w.trans (hB2.mono b1w.size)) (by omega))
theorem addI_lt_true (A B : Option Addr) (n m c d x y : Nat) (w : World) (h1 : D w (.slice A n c) x) (h2 : D w (.slice B m d) y) (hn : n ≤ 400000) (hm : m ≤ 400000) (hxy : x < y) :
    Calls Tryz.prog 216 #[.agg #[.bool true, .slice A n c], .agg #[.bool false, .slice B m d]] w (RetJ (sgn false (y - x)) w) := by
  have HC : Hid (∀ wx, Below w.heap.size w wx → Calls Tryz.prog 217 #[.slice A n c, .slice B m d] wx fun e w' => e = .returned (.int .i64 (cmpI x y)) ∧ Drn wx w') := fun wx hx => compD_any A B n m c d x y wx (h1.keep hx) (h2.keep hx) hn
  have HM : Hid (∀ wx, Below w.heap.size w wx → Calls Tryz.prog 245 #[.slice B m d, .slice A n c] wx (RetD (y - x) wx)) := fun wx hx => subD_any B A m n d c y x wx (h2.keep hx) (h1.keep hx) hm (by omega)
  have HXY : Hid (y - x < W ^ m) := Nat.lt_of_le_of_lt (Nat.sub_le _ _) h2.pow
  have HCI : Hid (cmpI (x : Int) (y : Int) = -1) := cmpI_lt (by omega)
  rw [HCI.out] at HC
  clear h1 h2 hxy
  obtain ⟨bx, bb⟩ := box3 w (.cells #[.bool true, .slice A n c] 183) (.cells #[.bool false, .slice B m d] 183) #[.bool false, .slice none 0 0] 183
  have BX := Lib.hid bx
  have BB := Lib.hid bb
  clear bx bb
  go_enter Tryz.func216, Tryz.ntmps216
  go_wp2_with fail
  (with_reducible refine (HC.out _ BB.out).mono ?_)
  rintro e wq ⟨rfl, q, rfl⟩
  go_wp2_with fail
  go_region_held3 (fun w' => w'.cell? ⟨w.heap.size, 0, none⟩ = some (.bool true) ∧ w'.cell? ⟨w.heap.size, 1, none⟩ = some (.slice A n c) ∧ w'.cell? ⟨w.heap.size + 1, 0, none⟩ = some (.bool false) ∧ w'.cell? ⟨w.heap.size + 1, 1, none⟩ = some (.slice B m d)) (simp [go_sem, World.cell?_alloc_past, *])
    (first
      | (go_at_call 245; (with_reducible refine (HM.out _ (BB.out.trans (Drn.below (Drn.n _ _) _))).mono ?_); rintro e w1 ⟨v, rfl, hD, hB⟩; obtain ⟨A1, n1, c1, rfl⟩ := hD.shape; obtain ⟨hc, hf⟩ := bcell hB; have hn1 := hD.len HXY.out; obtain ⟨z0, z1, z2⟩ := szs (k := w.heap.size) hB (by simp))
      | (go_at_call 242; (with_reducible refine (signed_any _ _ _ _ _ _ (by assumption) (by omega)).mono ?_); rintro e w2 ⟨A2, n2, c2, rfl, hD2, hB2⟩; obtain ⟨hc2, hf2⟩ := bcell hB2; obtain ⟨y0, y1, y2⟩ := szs (k := w.heap.size) hB2 (by (try simp); omega)))
  all_goals go_wp2_with fail
  have hB : Below _ _ w1 := (by first | exact below_undrewN hB | exact below_undrewN1 hB)
  have b1w : Below w.heap.size w w1 := BB.out.trans (hB.mono BB.out.size)
  exact bodyPost_ret (v := .agg #[.bool (decide (sgn false (y - x) < 0)), .slice A2 n2 c2]) (by simp [results, Tryz.results216, go_sem, *]) rfl
    (retJ_box rfl hD2 ((BX.out.keep hB).keep hB2) (b1w.trans (hB2.mono b1w.size)) (by omega))
theorem addI_ge_true (A B : Option Addr) (n m c d x y : Nat) (w : World) (h1 : D w (.slice A n c) x) (h2 : D w (.slice B m d) y) (hn : n ≤ 400000) (_hm : m ≤ 400000) (hxy : ¬ x < y) :
    Calls Tryz.prog 216 #[.agg #[.bool true, .slice A n c], .agg #[.bool false, .slice B m d]] w (RetJ (sgn true (x - y)) w) := by
  have HC : Hid (∀ wx, Below w.heap.size w wx → Calls Tryz.prog 217 #[.slice A n c, .slice B m d] wx fun e w' => e = .returned (.int .i64 (cmpI x y)) ∧ Drn wx w') := fun wx hx => compD_any A B n m c d x y wx (h1.keep hx) (h2.keep hx) hn
  have HM : Hid (∀ wx, Below w.heap.size w wx → Calls Tryz.prog 245 #[.slice A n c, .slice B m d] wx (RetD (x - y) wx)) := fun wx hx => subD_any A B n m c d x y wx (h1.keep hx) (h2.keep hx) hn (by omega)
  have HXY : Hid (x - y < W ^ n) := Nat.lt_of_le_of_lt (Nat.sub_le _ _) h1.pow
  obtain ⟨r, hr, hr0⟩ := cmpI_ge (x := (x : Int)) (y := (y : Int)) (by omega)
  rw [hr] at HC
  have hr1 : decide (r < 0) = false := by simp; omega
  clear hr
  clear h1 h2 hxy
  obtain ⟨bx, bb⟩ := box3 w (.cells #[.bool true, .slice A n c] 183) (.cells #[.bool false, .slice B m d] 183) #[.bool false, .slice none 0 0] 183
  have BX := Lib.hid bx
  have BB := Lib.hid bb
  clear bx bb
  go_enter Tryz.func216, Tryz.ntmps216
  go_wp2_with fail
  (with_reducible refine (HC.out _ BB.out).mono ?_)
  rintro e wq ⟨rfl, q, rfl⟩
  go_wp2_with fail
  go_region_held3 (fun w' => w'.cell? ⟨w.heap.size, 0, none⟩ = some (.bool true) ∧ w'.cell? ⟨w.heap.size, 1, none⟩ = some (.slice A n c) ∧ w'.cell? ⟨w.heap.size + 1, 0, none⟩ = some (.bool false) ∧ w'.cell? ⟨w.heap.size + 1, 1, none⟩ = some (.slice B m d)) (simp [go_sem, World.cell?_alloc_past, *])
    (first
      | (go_at_call 245; (with_reducible refine (HM.out _ (BB.out.trans (Drn.below (Drn.n _ _) _))).mono ?_); rintro e w1 ⟨v, rfl, hD, hB⟩; obtain ⟨A1, n1, c1, rfl⟩ := hD.shape; obtain ⟨hc, hf⟩ := bcell hB; have hn1 := hD.len HXY.out; obtain ⟨z0, z1, z2⟩ := szs (k := w.heap.size) hB (by simp))
      | (go_at_call 242; (with_reducible refine (signed_any _ _ _ _ _ _ (by assumption) (by omega)).mono ?_); rintro e w2 ⟨A2, n2, c2, rfl, hD2, hB2⟩; obtain ⟨hc2, hf2⟩ := bcell hB2; obtain ⟨y0, y1, y2⟩ := szs (k := w.heap.size) hB2 (by (try simp); omega)))
  all_goals go_wp2_with fail
  have hB : Below _ _ w1 := (by first | exact below_undrewN hB | exact below_undrewN1 hB)
  have b1w : Below w.heap.size w w1 := BB.out.trans (hB.mono BB.out.size)
  exact bodyPost_ret (v := .agg #[.bool (decide (sgn true (x - y) < 0)), .slice A2 n2 c2]) (by simp [results, Tryz.results216, go_sem, *]) rfl
    (retJ_box rfl hD2 ((BX.out.keep hB).keep hB2) (b1w.trans (hB2.mono b1w.size)) (by omega))
theorem addI_any (b1 b2 : Bool) (A B : Option Addr) (n m c d x y : Nat) (w : World) (h1 : D w (.slice A n c) x) (h2 : D w (.slice B m d) y) (hn : n ≤ 400000) (hm : m ≤ 400000) :
    Calls Tryz.prog 216 #[.agg #[.bool b1, .slice A n c], .agg #[.bool b2, .slice B m d]] w (RetJ (sgn b1 x + sgn b2 y) w) := by
  by_cases h : b1 = b2
  · subst h
    rw [sgn_add_same]
    exact addI_same b1 A B n m c d x y w h1 h2 hn hm
  · have hb : b2 = !b1 := by cases b1 <;> cases b2 <;> simp_all
    subst hb
    by_cases hxy : x < y
    · rw [sgn_add_lt _ _ _ hxy]
      cases b1
      · exact addI_lt_false A B n m c d x y w h1 h2 hn hm hxy
      · exact addI_lt_true A B n m c d x y w h1 h2 hn hm hxy
    · rw [sgn_add_ge _ _ _ (by omega)]
      cases b1
      · exact addI_ge_false A B n m c d x y w h1 h2 hn hm hxy
      · exact addI_ge_true A B n m c d x y w h1 h2 hn hm hxy
theorem retJJ_box {z z' : Int} {A A' : Option Addr} {n c n' c' g g' : Nat} {w w3 wf : World} {e : Ending} (he : e = .returned (.tuple #[.agg #[.bool (decide (z < 0)), .slice A n c], .agg #[.bool (decide (z' < 0)), .slice A' n' c']]))
    (hD : D w3 (.slice A n c) z.natAbs) (hD' : D w3 (.slice A' n' c') z'.natAbs) (hx : Bx w3 g 183) (hx' : Bx w3 g' 183) (hB : Below w.heap.size w w3) (hg : w.heap.size ≤ g) (hg' : w.heap.size ≤ g')
    (hw : Drn ((((w3.setCell ⟨g, 0, none⟩ (.bool (decide (z < 0)))).setCell ⟨g, 1, none⟩ (.slice A n c)).setCell ⟨g', 0, none⟩ (.bool (decide (z' < 0)))).setCell ⟨g', 1, none⟩ (.slice A' n' c')) wf) : RetJJ z z' w e wf := by
  have k1 : ∀ {v x}, D w3 v x → D wf v x := fun h => hw.d ((((h.set hx (by decide) _ _).set (hx.set _ _ _) (by decide) _ _).set ((hx'.set _ _ _).set _ _ _) (by decide) _ _).set (((hx'.set _ _ _).set _ _ _).set _ _ _) (by decide) _ _)
  exact ⟨A, n, c, A', n', c', he, k1 hD, k1 hD', ((((hB.setCell hg _).setCell hg _).setCell hg' _).setCell hg' _).trans (hw.below _)⟩
theorem divideI_any (b1 b2 : Bool) (A B : Option Addr) (n m c d x y : Nat) (w : World) (h1 : D w (.slice A n c) x) (h2 : D w (.slice B m d) y) (hn : n ≤ 999999) (hy : 0 < y) :
    Calls Tryz.prog 241 #[.agg #[.bool b1, .slice A n c], .agg #[.bool b2, .slice B m d]] w (RetJJ (sgn (!b1 == b2) (x / y)) (sgn b1 (x % y)) w) := by
  have HM : Hid (∀ wx, Below w.heap.size w wx → Calls Tryz.prog 266 #[.slice A n c, .slice B m d] wx (RetDiv x y wx)) := fun wx hx => divideD_any A B n m c d x y wx (h1.keep hx) (h2.keep hx) hn hy
  have HX : Hid (x / y < W ^ n) := Nat.lt_of_le_of_lt (Nat.div_le_self _ _) h1.pow
  have HY : Hid (x % y < W ^ n) := Nat.lt_of_le_of_lt (Nat.mod_le _ _) h1.pow
  clear h1 h2
  go_enter Tryz.func241, Tryz.ntmps241
  go_wp2_with fail
  generalize hX : (((w.alloc _).alloc _).alloc _).alloc _ = X
  have hXX : Below w.heap.size w X ∧ w.heap.size + 4 = X.heap.size ∧ Wr (w.heap.size + 1 + 1) 183 X ∧ Wr (w.heap.size + 1 + 1 + 1) 183 X ∧ Fr w.heap.size (.bool b1) (.slice A n c) (.bool b2) (.slice B m d) X := by
    subst hX
    exact ⟨((((Below.refl _ _).alloc (Nat.le_refl _) _).alloc (by simp) _).alloc (by simp; omega) _).alloc (by simp; omega) _, by simp, (Wr.new _ _ _ 183 (by simp)).keep (below_alloc _ _), Wr.new _ _ _ 183 (by simp), by simp [Fr, go_sem]⟩
  obtain ⟨hwX, hsX, hW2, hW3, hFr⟩ := hXX
  obtain ⟨i0, i1, i2, i3⟩ := hFr.out
  clear hX
  have HSX := Lib.hid hsX
  clear hsX
  go_wp2_with fail
  (with_reducible refine (HM.out _ hwX).mono ?_)
  rintro e w1 ⟨vq, vr, rfl, hDq, hDr, hB⟩
  obtain ⟨Aq, nq, cq, rfl⟩ := hDq.shape
  obtain ⟨Ar, nr, cr, rfl⟩ := hDr.shape
  have hnq := hDq.len HX.out
  have hnr := hDr.len HY.out
  have hFr1 := hFr.keep (by rw [← HSX.out]; omega) hB
  obtain ⟨j0, j1, j2, j3⟩ := hFr1.out
  clear i0 i1 i2 i3
  have hz1 : w.heap.size + 1 < w1.heap.size := by have := hB.size; have := HSX.out; omega
  have hw1 := hwX.trans (hB.mono hwX.size)
  go_wp2_with fail
  go_region_with (first
      | (go_at_call 242; (with_reducible refine (signed_any (!b1 == b2) Aq nq cq (x / y) _ (by first | exact hDq | exact hDq.drew) (by omega)).mono ?_); rintro e w2 ⟨A2, n2, c2, rfl, hD2, hB2⟩; have hB2 : Below w1.heap.size w1 w2 := (by first | exact hB2 | exact below_undrew' hB2); have hFr2 := hFr1.keep hz1 hB2; have hDr2 := hDr.keep hB2; have hw2 := hw1.trans (hB2.mono hw1.size); have hz2 := Nat.lt_of_lt_of_le hz1 hB2.size; obtain ⟨l0, l1, l2, l3⟩ := hFr2.out)
      | (go_at_call 242; (with_reducible refine (signed_any b1 Ar nr cr (x % y) _ (by first | exact hDr2 | exact hDr2.drew) (by omega)).mono ?_); rintro e w3 ⟨A3, n3, c3, rfl, hD3, hB3⟩; have hB3 : Below w2.heap.size w2 w3 := (by first | exact hB3 | exact below_undrew' hB3); have hFr3 := hFr2.keep hz2 hB3; have hD23 := hD2.keep hB3; have hw3 := hw2.trans (hB3.mono hw2.size); obtain ⟨m0, m1, m2, m3⟩ := hFr3.out; obtain ⟨⟨p1, p2, p3, p4⟩, p5, p6, p7⟩ := ((hW2.keep hB).keep hB2).keep hB3; obtain ⟨⟨o1, o2, o3, o4⟩, o5, o6, o7⟩ := ((hW3.keep hB).keep hB2).keep hB3))
  all_goals go_wp2_with fail
  all_goals exact bodyPost_ret (v := .tuple #[.agg #[.bool (decide (sgn (!b1 == b2) (x / y) < 0)), .slice A2 n2 c2], .agg #[.bool (decide (sgn b1 (x % y) < 0)), .slice A3 n3 c3]]) (by simp [results, Tryz.results241, go_sem, *]) rfl (retJJ_box rfl hD23 hD3 p7 o7 hw3 (by omega) (by omega) (by first | exact ⟨0, rfl⟩ | exact ⟨1, rfl⟩ | exact ⟨2, rfl⟩))
end Go.Proofs.YtmfnpipmbpnfbaaGreatDoor
