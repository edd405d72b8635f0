/- The difference of two lists of digits in memory, for the second at most the first. The sum of integers of any size in memory, and their sign and size. -/
import Derived.Test.YtfhmhkbjcccejaaGreatDoorZ01
import Derived.Deep.RegionWith
import Derived.BigRegion
import Derived.Test.YtfhmhkbjcccejaaGreatDoorZ09

namespace Go.Proofs.YtfhmhkbjcccejaaGreatDoor
open Go.RowKit

/-- What has been subtracted after k digits. -/
def SubRel (w : World) (n m : Nat) (f g : Nat → Nat) (borrow i : Value) (wr : World) : Prop :=
  ∃ (k d : Nat) (h : Nat → Nat), k ≤ n ∧ i = .int .i64 (k : Int) ∧ borrow = .int .u32 (d : Int) ∧ d ≤ 1 ∧ (∀ j, j < k → h j < W) ∧ V h k + V (ext g m) k = V f k + d * W ^ k ∧
    Row wr w.heap.size n h ∧ Below w.heap.size w wr

theorem subrel_start (w : World) (n m : Nat) (f g : Nat → Nat) : SubRel w n m f g (.int .u32 0) (.int .i64 0) (w.alloc (.cells (madeCells #[.int .u32 0] n) 101)) :=
  ⟨0, 0, fun _ => 0, Nat.zero_le _, rfl, rfl, by omega, fun j hj => by omega, by simp [V_zero], Row.new w n, (Below.refl _ _).alloc (Nat.le_refl _) _⟩

theorem subrel_step {w wr wd : World} {n m k d : Nat} {f g h : Nat → Nat} (hk : k < n) (hd : d ≤ 1) (hf : f k < W) (hg : ext g m k < W) (hh : ∀ j, j < k → h j < W)
    (hv : V h k + V (ext g m) k = V f k + d * W ^ k) (hrow : Row wr w.heap.size n h) (hbel : Below w.heap.size w wr) {a s t : Int} {i v : Value}
    (hs : s = ((f k : Nat) : Int) - ((ext g m k : Nat) : Int) - (d : Int)) (ht : t = ((ext g m k : Nat) : Int) + (d : Int)) (ha : a = (k : Int) + 1) (hi : i = .int .i64 a)
    (hw : wd = (wr.setCell ⟨w.heap.size, k, none⟩ (.int .u32 (s % 4294967296))).drew) (hb : v = .int .u32 (bor ((f k : Nat) : Int) t)) :
    SubRel w n m f g v i wd := by
  subst hs ht ha hi hw hb
  have hf2 : f k < 4294967296 := hf
  have hg2 : ext g m k < 4294967296 := hg
  obtain ⟨r, hr⟩ := Int.eq_ofNat_of_zero_le (show 0 ≤ (((f k : Nat) : Int) - ((ext g m k : Nat) : Int) - (d : Int)) % 4294967296 by omega)
  obtain ⟨e, he⟩ := Int.eq_ofNat_of_zero_le (bor_01 ((f k : Nat) : Int) (((ext g m k : Nat) : Int) + (d : Int))).1
  have he1 : e ≤ 1 := by have := (bor_01 ((f k : Nat) : Int) (((ext g m k : Nat) : Int) + (d : Int))).2; omega
  have hre : r + ext g m k + d = f k + e * W := by
    unfold bor at he
    rw [W_eq]
    split at he <;> omega
  have hrW : r < W := by rw [W_eq]; omega
  rw [hr, he]
  refine ⟨k + 1, e, up h k r, by omega, by rw [show ((k + 1 : Nat) : Int) = (k : Int) + 1 from by omega], rfl, he1, ?_, ?_, (hrow.set k _).drew, (hbel.setCell (Nat.le_refl _) _).drew⟩
  · intro j hj
    by_cases e : j = k
    · rw [e, up_at]; exact hrW
    · rw [up_far h _ e]; exact hh j (by omega)
  · rw [V_succ, V_succ, V_succ, up_at, V_up_below h _ (Nat.le_refl k)]
    exact sub_step _ _ hv hre

theorem subrel_end {n m k d : Nat} {f g h : Nat → Nat} (hk : k = n) (hm : m ≤ n) (hh : ∀ j, j < k → h j < W) (hle : V g m ≤ V f n)
    (hv : V h k + V (ext g m) k = V f k + d * W ^ k) : V h n = V f n - V g m := by
  subst hk
  rw [V_ext hm] at hv
  have b1 := V_lt hh
  rcases Nat.eq_zero_or_pos d with h0 | h0
  · subst h0; omega
  · have := Nat.mul_le_mul_right (W ^ k) h0
    omega

set_option maxRecDepth 100000 in
set_option maxHeartbeats 1000000 in
theorem sub_any (A B : Option Addr) (n m ca cb : Nat) (f g : Nat → Nat) (w : World) (hn : n ≤ 1000000) (hm : m ≤ n) (hA : Dg w A n f) (hB : Dg w B m g)
    (hf : ∀ i, i < n → f i < W) (hg : ∀ i, i < m → g i < W) (hle : V g m ≤ V f n) :
    Calls Tryz.prog 90 #[.slice A n ca, .slice B m cb] w (RetD (V f n - V g m) w) := by
  have hmk := make_row n (by omega)
  have HF := Lib.hid hf
  have HG := Lib.hid hg
  have HL := Lib.hid hle
  clear hf hg hle
  go_enter Tryz.func90, Tryz.ntmps90
  go_wp2_with fail
  clear hmk
  go_loopw [6, 13] (fun c i wr => SubRel w n m f g c i wr) (fun _ i _ => n - (intOf i).toNat)
  case atStart => exact subrel_start w n m f g
  case round =>
    obtain ⟨k, d, h, hk, rfl, rfl, hd, hh, hv, hrow, hbel⟩ := hrel
    have HH := Lib.hid hh
    have HV := Lib.hid hv
    clear hh hv
    by_cases hlt : k < n
    · obtain ⟨b, off, rfl, hb, hcells⟩ := (hA.keep hbel) (by omega)
      have hc1 := hcells k hlt
      have hB1 : Dg wr B m g := hB.keep hbel
      have b1 : f k < 4294967296 := HF.out k hlt
      have b2 := ext_lt HG.out k
      have hcell := hrow.cell hlt
      have hfr := hrow.frozen k
      clear hcells
      go_wp2_with fail
      go_region_with (first | ((with_reducible refine (at_any B m cb g (k : Int) _ (by omega) (by omega) (by omega) (Dg.drew hB1)).mono ?_); rintro e w' ⟨rfl, rfl⟩) | ((with_reducible refine (sub32_any _ _ _ _ (by omega) (by omega) (by omega) (by omega) (by omega) (by omega)).mono ?_); rintro e w' ⟨rfl, rfl⟩))
      all_goals go_wp2_with fail
      all_goals exact ⟨subrel_step hlt hd (HF.out k hlt) b2 HH.out HV.out hrow hbel rfl rfl rfl rfl rfl rfl, by simp [intOf]; omega⟩
    · have hke : k = n := by omega
      have HE := Lib.hid (subrel_end hke hm HH.out HL.out HV.out)
      have HD := Lib.hid (hrow.dg (Nat.le_refl _))
      have HH2 : Hid (∀ j, j < n → h j < W) := by have := HH.out; rw [hke] at this; exact this
      clear hke HV HH
      go_wp2_with ((with_reducible refine (trim_any _ _ _ h _ (Nat.le_refl _) (by omega) HD.out).mono ?_); rintro e w' ⟨q, rfl, hq, hN, hQ, rfl⟩)
      go_ret
      refine ⟨_, rfl, ⟨_, q, _, h, rfl, by omega, fun i hi => HH2.out i (by omega), hN, hQ.trans HE.out, ?_, hrow.tt _⟩, hbel⟩
      intro h0
      obtain ⟨b, off, e1, e2, e3⟩ := HD.out (by omega)
      exact ⟨b, off, e1, e2, fun i hi => e3 i (by omega)⟩

end Go.Proofs.YtfhmhkbjcccejaaGreatDoor

namespace Go.Proofs.YtfhmhkbjcccejaaGreatDoor
open Go.RowKit

theorem addD_any (A B : Option Addr) (n m c d x y : Nat) (w : World) (h1 : D w (.slice A n c) x) (h2 : D w (.slice B m d) y) (hn : n ≤ 400000) (hm : m ≤ 400000) :
    Calls Tryz.prog 54 #[.slice A n c, .slice B m d] w (RetD (x + y) w) := by
  obtain ⟨f, f1, f2, f3, f4, f5⟩ := h1.open_
  obtain ⟨g, g1, g2, g3, g4, g5⟩ := h2.open_
  rw [← f4, ← g4]
  exact add_any A B n m c d f g w (by omega) (by omega) f5 g5 f2 g2

theorem subD_any (A B : Option Addr) (n m c d x y : Nat) (w : World) (h1 : D w (.slice A n c) x) (h2 : D w (.slice B m d) y) (hn : n ≤ 400000) (hle : y ≤ x) :
    Calls Tryz.prog 90 #[.slice A n c, .slice B m d] w (RetD (x - y) w) := by
  obtain ⟨f, f1, f2, f3, f4, f5⟩ := h1.open_
  obtain ⟨g, g1, g2, g3, g4, g5⟩ := h2.open_
  subst f4 g4
  exact sub_any A B n m c d f g w (by omega) (len_of_lt g3 (Nat.lt_of_le_of_lt hle (V_lt f2))) f5 g5 f2 g2 hle

theorem compD_any (A B : Option Addr) (n m c d x y : Nat) (w : World) (h1 : D w (.slice A n c) x) (h2 : D w (.slice B m d) y) (hn : n ≤ 400000) :
    Calls Tryz.prog 80 #[.slice A n c, .slice B m d] w fun e w' => e = .returned (.int .i64 (cmpI x y)) ∧ Drn w w' := by
  obtain ⟨f, f1, f2, f3, f4, f5⟩ := h1.open_
  obtain ⟨g, g1, g2, g3, g4, g5⟩ := h2.open_
  rw [← f4, ← g4]
  exact comp_any A B n m c d f g w (by omega) f5 g5 f2 g2 f3 g3

theorem pow_add_lt {x y n m : Nat} (hx : x < W ^ n) (hy : y < W ^ m) : x + y < W ^ (n + m + 1) := by
  have h1 := pow_le (show n ≤ n + m by omega)
  have h2 := pow_le (show m ≤ n + m by omega)
  have h3 : W ^ (n + m + 1) = 4294967296 * W ^ (n + m) := by rw [pow_succ', Nat.mul_comm]; rfl
  omega

theorem sgn_add_same (b : Bool) (x y : Nat) : sgn b x + sgn b y = sgn b (x + y) := by cases b <;> simp [sgn] <;> omega
theorem sgn_add_lt (b : Bool) (x y : Nat) (h : x < y) : sgn b x + sgn (!b) y = sgn (!b) (y - x) := by cases b <;> simp [sgn] <;> omega
theorem sgn_add_ge (b : Bool) (x y : Nat) (h : y ≤ x) : sgn b x + sgn (!b) y = sgn b (x - y) := by cases b <;> simp [sgn] <;> omega

set_option maxRecDepth 100000 in
set_option maxHeartbeats 2000000 in
theorem addI_same (b : Bool) (A B : Option Addr) (n m c d x y : Nat) (w : World) (h1 : D w (.slice A n c) x) (h2 : D w (.slice B m d) y) (hn : n ≤ 400000) (hm : m ≤ 400000) :
    Calls Tryz.prog 63 #[.agg #[.bool b, .slice A n c], .agg #[.bool b, .slice B m d]] w (RetJ (sgn b (x + y)) w) := by
  have HM : Hid (∀ wx, Below w.heap.size w wx → Calls Tryz.prog 54 #[.slice A n c, .slice B m d] wx (RetD (x + y) wx)) := fun wx hx => addD_any A B n m c d x y wx (h1.keep hx) (h2.keep hx) hn hm
  have HXY := Lib.hid (pow_add_lt h1.pow h2.pow)
  clear h1 h2
  go_enter Tryz.func63, Tryz.ntmps63
  go_wp2_with fail
  go_region_held3 (fun w' => w'.cell? ⟨w.heap.size, 0, none⟩ = some (.bool b) ∧ w'.cell? ⟨w.heap.size, 1, none⟩ = some (.slice A n c) ∧ w'.cell? ⟨w.heap.size + 1, 0, none⟩ = some (.bool b) ∧ w'.cell? ⟨w.heap.size + 1, 1, none⟩ = some (.slice B m d)) (simp [go_sem, World.cell?_alloc_past, *])
    (first
      | (go_at_call 54; (with_reducible refine (HM.out _ (by repeat (first | exact Below.refl _ _ | refine Below.drew ?_ | refine Below.alloc ?_ (by simp <;> omega) _))).mono ?_); rintro e w1 ⟨v, rfl, hD, hB⟩; obtain ⟨A1, n1, c1, rfl⟩ := hD.shape; obtain ⟨hc, hf⟩ := bcell hB; have hn1 := hD.len HXY.out; obtain ⟨z0, z1, z2⟩ := szs (k := w.heap.size) hB (by simp))
      | (go_at_call 74; (with_reducible refine (signed_any _ _ _ _ _ _ (by assumption) (by omega)).mono ?_); rintro e w2 ⟨A2, n2, c2, rfl, hD2, hB2⟩; obtain ⟨hc2, hf2⟩ := bcell hB2; obtain ⟨y0, y1, y2⟩ := szs (k := w.heap.size) hB2 (by (try simp); omega)))
  all_goals go_wp2_with fail
  obtain ⟨bx, bb⟩ := box3 w (.cells #[.bool b, .slice A n c] 45) (.cells #[.bool b, .slice B m d] 45) #[.bool false, .slice none 0 0] 45
  have hB := below_undrew' hB
  have b1w : Below w.heap.size w w1 := bb.trans (hB.mono bb.size)
  exact bodyPost_ret (v := .agg #[.bool (decide (sgn b (x + y) < 0)), .slice A2 n2 c2]) (by simp [results, Tryz.results63, go_sem, *]) rfl
    (retJ_box rfl hD2 ((bx.keep hB).keep hB2) (b1w.trans (hB2.mono b1w.size)) (by omega))

theorem Drn.n (w : World) (q : Nat) : Drn w (w.drewN q) := ⟨q, rfl⟩
theorem below_undrewN {X w : World} {q : Nat} (h : Below (X.drewN q).heap.size (X.drewN q) w) : Below X.heap.size X w := ⟨h.os, h.tape, h.output, h.size, h.block⟩
theorem below_undrewN1 {X w : World} {q : Nat} (h : Below (X.drewN q).drew.heap.size (X.drewN q).drew w) : Below X.heap.size X w := ⟨h.os, h.tape, h.output, h.size, h.block⟩

set_option maxRecDepth 100000 in
set_option maxHeartbeats 2000000 in
theorem addI_lt_false (A B : Option Addr) (n m c d x y : Nat) (w : World) (h1 : D w (.slice A n c) x) (h2 : D w (.slice B m d) y) (hn : n ≤ 400000) (hm : m ≤ 400000) (hxy : x < y) :
    Calls Tryz.prog 63 #[.agg #[.bool false, .slice A n c], .agg #[.bool true, .slice B m d]] w (RetJ (sgn true (y - x)) w) := by
  have HC : Hid (∀ wx, Below w.heap.size w wx → Calls Tryz.prog 80 #[.slice A n c, .slice B m d] wx fun e w' => e = .returned (.int .i64 (cmpI x y)) ∧ Drn wx w') := fun wx hx => compD_any A B n m c d x y wx (h1.keep hx) (h2.keep hx) hn
  have HM : Hid (∀ wx, Below w.heap.size w wx → Calls Tryz.prog 90 #[.slice B m d, .slice A n c] wx (RetD (y - x) wx)) := fun wx hx => subD_any B A m n d c y x wx (h2.keep hx) (h1.keep hx) hm (by omega)
  have HXY : Hid (y - x < W ^ m) := Nat.lt_of_le_of_lt (Nat.sub_le _ _) h2.pow
  have HCI : Hid (cmpI (x : Int) (y : Int) = -1) := cmpI_lt (by omega)
  rw [HCI.out] at HC
  clear h1 h2 hxy
  obtain ⟨bx, bb⟩ := box3 w (.cells #[.bool false, .slice A n c] 45) (.cells #[.bool true, .slice B m d] 45) #[.bool false, .slice none 0 0] 45
  have BX := Lib.hid bx
  have BB := Lib.hid bb
  clear bx bb
  go_enter Tryz.func63, Tryz.ntmps63
  go_wp2_with fail
  (with_reducible refine (HC.out _ BB.out).mono ?_)
  rintro e wq ⟨rfl, q, rfl⟩
  go_wp2_with fail
  go_region_held3 (fun w' => w'.cell? ⟨w.heap.size, 0, none⟩ = some (.bool false) ∧ w'.cell? ⟨w.heap.size, 1, none⟩ = some (.slice A n c) ∧ w'.cell? ⟨w.heap.size + 1, 0, none⟩ = some (.bool true) ∧ w'.cell? ⟨w.heap.size + 1, 1, none⟩ = some (.slice B m d)) (simp [go_sem, World.cell?_alloc_past, *])
    (first
      | (go_at_call 90; (with_reducible refine (HM.out _ (BB.out.trans (Drn.below (Drn.n _ _) _))).mono ?_); rintro e w1 ⟨v, rfl, hD, hB⟩; obtain ⟨A1, n1, c1, rfl⟩ := hD.shape; obtain ⟨hc, hf⟩ := bcell hB; have hn1 := hD.len HXY.out; obtain ⟨z0, z1, z2⟩ := szs (k := w.heap.size) hB (by simp))
      | (go_at_call 74; (with_reducible refine (signed_any _ _ _ _ _ _ (by assumption) (by omega)).mono ?_); rintro e w2 ⟨A2, n2, c2, rfl, hD2, hB2⟩; obtain ⟨hc2, hf2⟩ := bcell hB2; obtain ⟨y0, y1, y2⟩ := szs (k := w.heap.size) hB2 (by (try simp); omega)))
  all_goals go_wp2_with fail
  have hB : Below _ _ w1 := (by first | exact below_undrewN hB | exact below_undrewN1 hB)
  have b1w : Below w.heap.size w w1 := BB.out.trans (hB.mono BB.out.size)
  exact bodyPost_ret (v := .agg #[.bool (decide (sgn true (y - x) < 0)), .slice A2 n2 c2]) (by simp [results, Tryz.results63, go_sem, *]) rfl
    (retJ_box rfl hD2 ((BX.out.keep hB).keep hB2) (b1w.trans (hB2.mono b1w.size)) (by omega))

set_option maxRecDepth 100000 in
set_option maxHeartbeats 2000000 in
theorem addI_ge_false (A B : Option Addr) (n m c d x y : Nat) (w : World) (h1 : D w (.slice A n c) x) (h2 : D w (.slice B m d) y) (hn : n ≤ 400000) (_hm : m ≤ 400000) (hxy : ¬ x < y) :
    Calls Tryz.prog 63 #[.agg #[.bool false, .slice A n c], .agg #[.bool true, .slice B m d]] w (RetJ (sgn false (x - y)) w) := by
  have HC : Hid (∀ wx, Below w.heap.size w wx → Calls Tryz.prog 80 #[.slice A n c, .slice B m d] wx fun e w' => e = .returned (.int .i64 (cmpI x y)) ∧ Drn wx w') := fun wx hx => compD_any A B n m c d x y wx (h1.keep hx) (h2.keep hx) hn
  have HM : Hid (∀ wx, Below w.heap.size w wx → Calls Tryz.prog 90 #[.slice A n c, .slice B m d] wx (RetD (x - y) wx)) := fun wx hx => subD_any A B n m c d x y wx (h1.keep hx) (h2.keep hx) hn (by omega)
  have HXY : Hid (x - y < W ^ n) := Nat.lt_of_le_of_lt (Nat.sub_le _ _) h1.pow
  obtain ⟨r, hr, hr0⟩ := cmpI_ge (x := (x : Int)) (y := (y : Int)) (by omega)
  rw [hr] at HC
  have hr1 : decide (r < 0) = false := by simp; omega
  clear hr
  clear h1 h2 hxy
  obtain ⟨bx, bb⟩ := box3 w (.cells #[.bool false, .slice A n c] 45) (.cells #[.bool true, .slice B m d] 45) #[.bool false, .slice none 0 0] 45
  have BX := Lib.hid bx
  have BB := Lib.hid bb
  clear bx bb
  go_enter Tryz.func63, Tryz.ntmps63
  go_wp2_with fail
  (with_reducible refine (HC.out _ BB.out).mono ?_)
  rintro e wq ⟨rfl, q, rfl⟩
  go_wp2_with fail
  go_region_held3 (fun w' => w'.cell? ⟨w.heap.size, 0, none⟩ = some (.bool false) ∧ w'.cell? ⟨w.heap.size, 1, none⟩ = some (.slice A n c) ∧ w'.cell? ⟨w.heap.size + 1, 0, none⟩ = some (.bool true) ∧ w'.cell? ⟨w.heap.size + 1, 1, none⟩ = some (.slice B m d)) (simp [go_sem, World.cell?_alloc_past, *])
    (first
      | (go_at_call 90; (with_reducible refine (HM.out _ (BB.out.trans (Drn.below (Drn.n _ _) _))).mono ?_); rintro e w1 ⟨v, rfl, hD, hB⟩; obtain ⟨A1, n1, c1, rfl⟩ := hD.shape; obtain ⟨hc, hf⟩ := bcell hB; have hn1 := hD.len HXY.out; obtain ⟨z0, z1, z2⟩ := szs (k := w.heap.size) hB (by simp))
      | (go_at_call 74; (with_reducible refine (signed_any _ _ _ _ _ _ (by assumption) (by omega)).mono ?_); rintro e w2 ⟨A2, n2, c2, rfl, hD2, hB2⟩; obtain ⟨hc2, hf2⟩ := bcell hB2; obtain ⟨y0, y1, y2⟩ := szs (k := w.heap.size) hB2 (by (try simp); omega)))
  all_goals go_wp2_with fail
  have hB : Below _ _ w1 := (by first | exact below_undrewN hB | exact below_undrewN1 hB)
  have b1w : Below w.heap.size w w1 := BB.out.trans (hB.mono BB.out.size)
  exact bodyPost_ret (v := .agg #[.bool (decide (sgn false (x - y) < 0)), .slice A2 n2 c2]) (by simp [results, Tryz.results63, go_sem, *]) rfl
    (retJ_box rfl hD2 ((BX.out.keep hB).keep hB2) (b1w.trans (hB2.mono b1w.size)) (by omega))

set_option maxRecDepth 100000 in
set_option maxHeartbeats 2000000 in
theorem addI_lt_true (A B : Option Addr) (n m c d x y : Nat) (w : World) (h1 : D w (.slice A n c) x) (h2 : D w (.slice B m d) y) (hn : n ≤ 400000) (hm : m ≤ 400000) (hxy : x < y) :
    Calls Tryz.prog 63 #[.agg #[.bool true, .slice A n c], .agg #[.bool false, .slice B m d]] w (RetJ (sgn false (y - x)) w) := by
  have HC : Hid (∀ wx, Below w.heap.size w wx → Calls Tryz.prog 80 #[.slice A n c, .slice B m d] wx fun e w' => e = .returned (.int .i64 (cmpI x y)) ∧ Drn wx w') := fun wx hx => compD_any A B n m c d x y wx (h1.keep hx) (h2.keep hx) hn
  have HM : Hid (∀ wx, Below w.heap.size w wx → Calls Tryz.prog 90 #[.slice B m d, .slice A n c] wx (RetD (y - x) wx)) := fun wx hx => subD_any B A m n d c y x wx (h2.keep hx) (h1.keep hx) hm (by omega)
  have HXY : Hid (y - x < W ^ m) := Nat.lt_of_le_of_lt (Nat.sub_le _ _) h2.pow
  have HCI : Hid (cmpI (x : Int) (y : Int) = -1) := cmpI_lt (by omega)
  rw [HCI.out] at HC
  clear h1 h2 hxy
  obtain ⟨bx, bb⟩ := box3 w (.cells #[.bool true, .slice A n c] 45) (.cells #[.bool false, .slice B m d] 45) #[.bool false, .slice none 0 0] 45
  have BX := Lib.hid bx
  have BB := Lib.hid bb
  clear bx bb
  go_enter Tryz.func63, Tryz.ntmps63
  go_wp2_with fail
  (with_reducible refine (HC.out _ BB.out).mono ?_)
  rintro e wq ⟨rfl, q, rfl⟩
  go_wp2_with fail
  go_region_held3 (fun w' => w'.cell? ⟨w.heap.size, 0, none⟩ = some (.bool true) ∧ w'.cell? ⟨w.heap.size, 1, none⟩ = some (.slice A n c) ∧ w'.cell? ⟨w.heap.size + 1, 0, none⟩ = some (.bool false) ∧ w'.cell? ⟨w.heap.size + 1, 1, none⟩ = some (.slice B m d)) (simp [go_sem, World.cell?_alloc_past, *])
    (first
      | (go_at_call 90; (with_reducible refine (HM.out _ (BB.out.trans (Drn.below (Drn.n _ _) _))).mono ?_); rintro e w1 ⟨v, rfl, hD, hB⟩; obtain ⟨A1, n1, c1, rfl⟩ := hD.shape; obtain ⟨hc, hf⟩ := bcell hB; have hn1 := hD.len HXY.out; obtain ⟨z0, z1, z2⟩ := szs (k := w.heap.size) hB (by simp))
      | (go_at_call 74; (with_reducible refine (signed_any _ _ _ _ _ _ (by assumption) (by omega)).mono ?_); rintro e w2 ⟨A2, n2, c2, rfl, hD2, hB2⟩; obtain ⟨hc2, hf2⟩ := bcell hB2; obtain ⟨y0, y1, y2⟩ := szs (k := w.heap.size) hB2 (by (try simp); omega)))
  all_goals go_wp2_with fail
  have hB : Below _ _ w1 := (by first | exact below_undrewN hB | exact below_undrewN1 hB)
  have b1w : Below w.heap.size w w1 := BB.out.trans (hB.mono BB.out.size)
  exact bodyPost_ret (v := .agg #[.bool (decide (sgn false (y - x) < 0)), .slice A2 n2 c2]) (by simp [results, Tryz.results63, go_sem, *]) rfl
    (retJ_box rfl hD2 ((BX.out.keep hB).keep hB2) (b1w.trans (hB2.mono b1w.size)) (by omega))

set_option maxRecDepth 100000 in
set_option maxHeartbeats 2000000 in
theorem addI_ge_true (A B : Option Addr) (n m c d x y : Nat) (w : World) (h1 : D w (.slice A n c) x) (h2 : D w (.slice B m d) y) (hn : n ≤ 400000) (_hm : m ≤ 400000) (hxy : ¬ x < y) :
    Calls Tryz.prog 63 #[.agg #[.bool true, .slice A n c], .agg #[.bool false, .slice B m d]] w (RetJ (sgn true (x - y)) w) := by
  have HC : Hid (∀ wx, Below w.heap.size w wx → Calls Tryz.prog 80 #[.slice A n c, .slice B m d] wx fun e w' => e = .returned (.int .i64 (cmpI x y)) ∧ Drn wx w') := fun wx hx => compD_any A B n m c d x y wx (h1.keep hx) (h2.keep hx) hn
  have HM : Hid (∀ wx, Below w.heap.size w wx → Calls Tryz.prog 90 #[.slice A n c, .slice B m d] wx (RetD (x - y) wx)) := fun wx hx => subD_any A B n m c d x y wx (h1.keep hx) (h2.keep hx) hn (by omega)
  have HXY : Hid (x - y < W ^ n) := Nat.lt_of_le_of_lt (Nat.sub_le _ _) h1.pow
  obtain ⟨r, hr, hr0⟩ := cmpI_ge (x := (x : Int)) (y := (y : Int)) (by omega)
  rw [hr] at HC
  have hr1 : decide (r < 0) = false := by simp; omega
  clear hr
  clear h1 h2 hxy
  obtain ⟨bx, bb⟩ := box3 w (.cells #[.bool true, .slice A n c] 45) (.cells #[.bool false, .slice B m d] 45) #[.bool false, .slice none 0 0] 45
  have BX := Lib.hid bx
  have BB := Lib.hid bb
  clear bx bb
  go_enter Tryz.func63, Tryz.ntmps63
  go_wp2_with fail
  (with_reducible refine (HC.out _ BB.out).mono ?_)
  rintro e wq ⟨rfl, q, rfl⟩
  go_wp2_with fail
  go_region_held3 (fun w' => w'.cell? ⟨w.heap.size, 0, none⟩ = some (.bool true) ∧ w'.cell? ⟨w.heap.size, 1, none⟩ = some (.slice A n c) ∧ w'.cell? ⟨w.heap.size + 1, 0, none⟩ = some (.bool false) ∧ w'.cell? ⟨w.heap.size + 1, 1, none⟩ = some (.slice B m d)) (simp [go_sem, World.cell?_alloc_past, *])
    (first
      | (go_at_call 90; (with_reducible refine (HM.out _ (BB.out.trans (Drn.below (Drn.n _ _) _))).mono ?_); rintro e w1 ⟨v, rfl, hD, hB⟩; obtain ⟨A1, n1, c1, rfl⟩ := hD.shape; obtain ⟨hc, hf⟩ := bcell hB; have hn1 := hD.len HXY.out; obtain ⟨z0, z1, z2⟩ := szs (k := w.heap.size) hB (by simp))
      | (go_at_call 74; (with_reducible refine (signed_any _ _ _ _ _ _ (by assumption) (by omega)).mono ?_); rintro e w2 ⟨A2, n2, c2, rfl, hD2, hB2⟩; obtain ⟨hc2, hf2⟩ := bcell hB2; obtain ⟨y0, y1, y2⟩ := szs (k := w.heap.size) hB2 (by (try simp); omega)))
  all_goals go_wp2_with fail
  have hB : Below _ _ w1 := (by first | exact below_undrewN hB | exact below_undrewN1 hB)
  have b1w : Below w.heap.size w w1 := BB.out.trans (hB.mono BB.out.size)
  exact bodyPost_ret (v := .agg #[.bool (decide (sgn true (x - y) < 0)), .slice A2 n2 c2]) (by simp [results, Tryz.results63, go_sem, *]) rfl
    (retJ_box rfl hD2 ((BX.out.keep hB).keep hB2) (b1w.trans (hB2.mono b1w.size)) (by omega))

/-- exact.Int.Add. -/
theorem addI_any (b1 b2 : Bool) (A B : Option Addr) (n m c d x y : Nat) (w : World) (h1 : D w (.slice A n c) x) (h2 : D w (.slice B m d) y) (hn : n ≤ 400000) (hm : m ≤ 400000) :
    Calls Tryz.prog 63 #[.agg #[.bool b1, .slice A n c], .agg #[.bool b2, .slice B m d]] w (RetJ (sgn b1 x + sgn b2 y) w) := by
  by_cases h : b1 = b2
  · subst h
    rw [sgn_add_same]
    exact addI_same b1 A B n m c d x y w h1 h2 hn hm
  · have hb : b2 = !b1 := by cases b1 <;> cases b2 <;> simp_all
    subst hb
    by_cases hxy : x < y
    · rw [sgn_add_lt _ _ _ hxy]
      cases b1
      · exact addI_lt_false A B n m c d x y w h1 h2 hn hm hxy
      · exact addI_lt_true A B n m c d x y w h1 h2 hn hm hxy
    · rw [sgn_add_ge _ _ _ (by omega)]
      cases b1
      · exact addI_ge_false A B n m c d x y w h1 h2 hn hm hxy
      · exact addI_ge_true A B n m c d x y w h1 h2 hn hm hxy

end Go.Proofs.YtfhmhkbjcccejaaGreatDoor
