/- The sum of integers of any size in memory, and their sign and size. -/
import Derived.Test.YtfhmhkbjcccejaaMInt2
import Derived.Test.YtfhmhkbjcccejaaMSub

namespace Go.Proofs.Ytfhmhkbjcccejaa
open Go.RowKit

theorem addD_any (A B : Option Addr) (n m c d x y : Nat) (w : World) (h1 : D w (.slice A n c) x) (h2 : D w (.slice B m d) y) (hn : n ≤ 400000) (hm : m ≤ 400000) :
    Calls Try.prog 96 #[.slice A n c, .slice B m d] w (RetD (x + y) w) := by
  obtain ⟨f, f1, f2, f3, f4, f5⟩ := h1.open_
  obtain ⟨g, g1, g2, g3, g4, g5⟩ := h2.open_
  rw [← f4, ← g4]
  exact add_any A B n m c d f g w (by omega) (by omega) f5 g5 f2 g2

theorem subD_any (A B : Option Addr) (n m c d x y : Nat) (w : World) (h1 : D w (.slice A n c) x) (h2 : D w (.slice B m d) y) (hn : n ≤ 400000) (hle : y ≤ x) :
    Calls Try.prog 97 #[.slice A n c, .slice B m d] w (RetD (x - y) w) := by
  obtain ⟨f, f1, f2, f3, f4, f5⟩ := h1.open_
  obtain ⟨g, g1, g2, g3, g4, g5⟩ := h2.open_
  subst f4 g4
  exact sub_any A B n m c d f g w (by omega) (len_of_lt g3 (Nat.lt_of_le_of_lt hle (V_lt f2))) f5 g5 f2 g2 hle

theorem compD_any (A B : Option Addr) (n m c d x y : Nat) (w : World) (h1 : D w (.slice A n c) x) (h2 : D w (.slice B m d) y) (hn : n ≤ 400000) :
    Calls Try.prog 88 #[.slice A n c, .slice B m d] w fun e w' => e = .returned (.int .i64 (cmpI x y)) ∧ Drn w w' := by
  obtain ⟨f, f1, f2, f3, f4, f5⟩ := h1.open_
  obtain ⟨g, g1, g2, g3, g4, g5⟩ := h2.open_
  rw [← f4, ← g4]
  exact comp_any A B n m c d f g w (by omega) f5 g5 f2 g2 f3 g3

theorem pow_add_lt {x y n m : Nat} (hx : x < W ^ n) (hy : y < W ^ m) : x + y < W ^ (n + m + 1) := by
  have h1 := pow_le (show n ≤ n + m by omega)
  have h2 := pow_le (show m ≤ n + m by omega)
  have h3 : W ^ (n + m + 1) = 4294967296 * W ^ (n + m) := by rw [pow_succ', Nat.mul_comm]; rfl
  omega

theorem sgn_add_same (b : Bool) (x y : Nat) : sgn b x + sgn b y = sgn b (x + y) := by cases b <;> simp [sgn] <;> omega
theorem sgn_add_lt (b : Bool) (x y : Nat) (h : x < y) : sgn b x + sgn (!b) y = sgn (!b) (y - x) := by cases b <;> simp [sgn] <;> omega
theorem sgn_add_ge (b : Bool) (x y : Nat) (h : y ≤ x) : sgn b x + sgn (!b) y = sgn b (x - y) := by cases b <;> simp [sgn] <;> omega

set_option maxRecDepth 100000 in
set_option maxHeartbeats 2000000 in
theorem addI_same (b : Bool) (A B : Option Addr) (n m c d x y : Nat) (w : World) (h1 : D w (.slice A n c) x) (h2 : D w (.slice B m d) y) (hn : n ≤ 400000) (hm : m ≤ 400000) :
    Calls Try.prog 80 #[.agg #[.bool b, .slice A n c], .agg #[.bool b, .slice B m d]] w (RetJ (sgn b (x + y)) w) := by
  have HM : Hid (∀ wx, Below w.heap.size w wx → Calls Try.prog 96 #[.slice A n c, .slice B m d] wx (RetD (x + y) wx)) := fun wx hx => addD_any A B n m c d x y wx (h1.keep hx) (h2.keep hx) hn hm
  have HXY := Lib.hid (pow_add_lt h1.pow h2.pow)
  clear h1 h2
  go_enter Try.func80, Try.ntmps80
  go_wp2_with fail
  go_region_held3 (fun w' => w'.cell? ⟨w.heap.size, 0, none⟩ = some (.bool b) ∧ w'.cell? ⟨w.heap.size, 1, none⟩ = some (.slice A n c) ∧ w'.cell? ⟨w.heap.size + 1, 0, none⟩ = some (.bool b) ∧ w'.cell? ⟨w.heap.size + 1, 1, none⟩ = some (.slice B m d)) (simp [go_sem, World.cell?_alloc_past, *])
    (first
      | (go_at_call 96; (with_reducible refine (HM.out _ (by repeat (first | exact Below.refl _ _ | refine Below.drew ?_ | refine Below.alloc ?_ (by simp <;> omega) _))).mono ?_); rintro e w1 ⟨v, rfl, hD, hB⟩; obtain ⟨A1, n1, c1, rfl⟩ := hD.shape; obtain ⟨hc, hf⟩ := bcell hB; have hn1 := hD.len HXY.out; obtain ⟨z0, z1, z2⟩ := szs (k := w.heap.size) hB (by simp))
      | (go_at_call 84; (with_reducible refine (signed_any _ _ _ _ _ _ (by assumption) (by omega)).mono ?_); rintro e w2 ⟨A2, n2, c2, rfl, hD2, hB2⟩; obtain ⟨hc2, hf2⟩ := bcell hB2; obtain ⟨y0, y1, y2⟩ := szs (k := w.heap.size) hB2 (by (try simp); omega)))
  all_goals go_wp2_with fail
  obtain ⟨bx, bb⟩ := box3 w (.cells #[.bool b, .slice A n c] 55) (.cells #[.bool b, .slice B m d] 55) #[.bool false, .slice none 0 0] 55
  have hB := below_undrew' hB
  have b1w : Below w.heap.size w w1 := bb.trans (hB.mono bb.size)
  exact bodyPost_ret (v := .agg #[.bool (decide (sgn b (x + y) < 0)), .slice A2 n2 c2]) (by simp [results, Try.results80, go_sem, *]) rfl
    (retJ_box rfl hD2 ((bx.keep hB).keep hB2) (b1w.trans (hB2.mono b1w.size)) (by omega))

theorem Drn.n (w : World) (q : Nat) : Drn w (w.drewN q) := ⟨q, rfl⟩
theorem below_undrewN {X w : World} {q : Nat} (h : Below (X.drewN q).heap.size (X.drewN q) w) : Below X.heap.size X w := ⟨h.os, h.tape, h.output, h.size, h.block⟩
theorem below_undrewN1 {X w : World} {q : Nat} (h : Below (X.drewN q).drew.heap.size (X.drewN q).drew w) : Below X.heap.size X w := ⟨h.os, h.tape, h.output, h.size, h.block⟩

set_option maxRecDepth 100000 in
set_option maxHeartbeats 2000000 in
theorem addI_lt_false (A B : Option Addr) (n m c d x y : Nat) (w : World) (h1 : D w (.slice A n c) x) (h2 : D w (.slice B m d) y) (hn : n ≤ 400000) (hm : m ≤ 400000) (hxy : x < y) :
    Calls Try.prog 80 #[.agg #[.bool false, .slice A n c], .agg #[.bool true, .slice B m d]] w (RetJ (sgn true (y - x)) w) := by
  have HC : Hid (∀ wx, Below w.heap.size w wx → Calls Try.prog 88 #[.slice A n c, .slice B m d] wx fun e w' => e = .returned (.int .i64 (cmpI x y)) ∧ Drn wx w') := fun wx hx => compD_any A B n m c d x y wx (h1.keep hx) (h2.keep hx) hn
  have HM : Hid (∀ wx, Below w.heap.size w wx → Calls Try.prog 97 #[.slice B m d, .slice A n c] wx (RetD (y - x) wx)) := fun wx hx => subD_any B A m n d c y x wx (h2.keep hx) (h1.keep hx) hm (by omega)
  have HXY : Hid (y - x < W ^ m) := Nat.lt_of_le_of_lt (Nat.sub_le _ _) h2.pow
  have HCI : Hid (cmpI (x : Int) (y : Int) = -1) := cmpI_lt (by omega)
  rw [HCI.out] at HC
  clear h1 h2 hxy
  obtain ⟨bx, bb⟩ := box3 w (.cells #[.bool false, .slice A n c] 55) (.cells #[.bool true, .slice B m d] 55) #[.bool false, .slice none 0 0] 55
  have BX := Lib.hid bx
  have BB := Lib.hid bb
  clear bx bb
  go_enter Try.func80, Try.ntmps80
  go_wp2_with fail
  (with_reducible refine (HC.out _ BB.out).mono ?_)
  rintro e wq ⟨rfl, q, rfl⟩
  go_wp2_with fail
  go_region_held3 (fun w' => w'.cell? ⟨w.heap.size, 0, none⟩ = some (.bool false) ∧ w'.cell? ⟨w.heap.size, 1, none⟩ = some (.slice A n c) ∧ w'.cell? ⟨w.heap.size + 1, 0, none⟩ = some (.bool true) ∧ w'.cell? ⟨w.heap.size + 1, 1, none⟩ = some (.slice B m d)) (simp [go_sem, World.cell?_alloc_past, *])
    (first
      | (go_at_call 97; (with_reducible refine (HM.out _ (BB.out.trans (Drn.below (Drn.n _ _) _))).mono ?_); rintro e w1 ⟨v, rfl, hD, hB⟩; obtain ⟨A1, n1, c1, rfl⟩ := hD.shape; obtain ⟨hc, hf⟩ := bcell hB; have hn1 := hD.len HXY.out; obtain ⟨z0, z1, z2⟩ := szs (k := w.heap.size) hB (by simp))
      | (go_at_call 84; (with_reducible refine (signed_any _ _ _ _ _ _ (by assumption) (by omega)).mono ?_); rintro e w2 ⟨A2, n2, c2, rfl, hD2, hB2⟩; obtain ⟨hc2, hf2⟩ := bcell hB2; obtain ⟨y0, y1, y2⟩ := szs (k := w.heap.size) hB2 (by (try simp); omega)))
  all_goals go_wp2_with fail
  have hB : Below _ _ w1 := (by first | exact below_undrewN hB | exact below_undrewN1 hB)
  have b1w : Below w.heap.size w w1 := BB.out.trans (hB.mono BB.out.size)
  exact bodyPost_ret (v := .agg #[.bool (decide (sgn true (y - x) < 0)), .slice A2 n2 c2]) (by simp [results, Try.results80, go_sem, *]) rfl
    (retJ_box rfl hD2 ((BX.out.keep hB).keep hB2) (b1w.trans (hB2.mono b1w.size)) (by omega))

set_option maxRecDepth 100000 in
set_option maxHeartbeats 2000000 in
theorem addI_ge_false (A B : Option Addr) (n m c d x y : Nat) (w : World) (h1 : D w (.slice A n c) x) (h2 : D w (.slice B m d) y) (hn : n ≤ 400000) (_hm : m ≤ 400000) (hxy : ¬ x < y) :
    Calls Try.prog 80 #[.agg #[.bool false, .slice A n c], .agg #[.bool true, .slice B m d]] w (RetJ (sgn false (x - y)) w) := by
  have HC : Hid (∀ wx, Below w.heap.size w wx → Calls Try.prog 88 #[.slice A n c, .slice B m d] wx fun e w' => e = .returned (.int .i64 (cmpI x y)) ∧ Drn wx w') := fun wx hx => compD_any A B n m c d x y wx (h1.keep hx) (h2.keep hx) hn
  have HM : Hid (∀ wx, Below w.heap.size w wx → Calls Try.prog 97 #[.slice A n c, .slice B m d] wx (RetD (x - y) wx)) := fun wx hx => subD_any A B n m c d x y wx (h1.keep hx) (h2.keep hx) hn (by omega)
  have HXY : Hid (x - y < W ^ n) := Nat.lt_of_le_of_lt (Nat.sub_le _ _) h1.pow
  obtain ⟨r, hr, hr0⟩ := cmpI_ge (x := (x : Int)) (y := (y : Int)) (by omega)
  rw [hr] at HC
  have hr1 : decide (r < 0) = false := by simp; omega
  clear hr
  clear h1 h2 hxy
  obtain ⟨bx, bb⟩ := box3 w (.cells #[.bool false, .slice A n c] 55) (.cells #[.bool true, .slice B m d] 55) #[.bool false, .slice none 0 0] 55
  have BX := Lib.hid bx
  have BB := Lib.hid bb
  clear bx bb
  go_enter Try.func80, Try.ntmps80
  go_wp2_with fail
  (with_reducible refine (HC.out _ BB.out).mono ?_)
  rintro e wq ⟨rfl, q, rfl⟩
  go_wp2_with fail
  go_region_held3 (fun w' => w'.cell? ⟨w.heap.size, 0, none⟩ = some (.bool false) ∧ w'.cell? ⟨w.heap.size, 1, none⟩ = some (.slice A n c) ∧ w'.cell? ⟨w.heap.size + 1, 0, none⟩ = some (.bool true) ∧ w'.cell? ⟨w.heap.size + 1, 1, none⟩ = some (.slice B m d)) (simp [go_sem, World.cell?_alloc_past, *])
    (first
      | (go_at_call 97; (with_reducible refine (HM.out _ (BB.out.trans (Drn.below (Drn.n _ _) _))).mono ?_); rintro e w1 ⟨v, rfl, hD, hB⟩; obtain ⟨A1, n1, c1, rfl⟩ := hD.shape; obtain ⟨hc, hf⟩ := bcell hB; have hn1 := hD.len HXY.out; obtain ⟨z0, z1, z2⟩ := szs (k := w.heap.size) hB (by simp))
      | (go_at_call 84; (with_reducible refine (signed_any _ _ _ _ _ _ (by assumption) (by omega)).mono ?_); rintro e w2 ⟨A2, n2, c2, rfl, hD2, hB2⟩; obtain ⟨hc2, hf2⟩ := bcell hB2; obtain ⟨y0, y1, y2⟩ := szs (k := w.heap.size) hB2 (by (try simp); omega)))
  all_goals go_wp2_with fail
  have hB : Below _ _ w1 := (by first | exact below_undrewN hB | exact below_undrewN1 hB)
  have b1w : Below w.heap.size w w1 := BB.out.trans (hB.mono BB.out.size)
  exact bodyPost_ret (v := .agg #[.bool (decide (sgn false (x - y) < 0)), .slice A2 n2 c2]) (by simp [results, Try.results80, go_sem, *]) rfl
    (retJ_box rfl hD2 ((BX.out.keep hB).keep hB2) (b1w.trans (hB2.mono b1w.size)) (by omega))

set_option maxRecDepth 100000 in
set_option maxHeartbeats 2000000 in
theorem addI_lt_true (A B : Option Addr) (n m c d x y : Nat) (w : World) (h1 : D w (.slice A n c) x) (h2 : D w (.slice B m d) y) (hn : n ≤ 400000) (hm : m ≤ 400000) (hxy : x < y) :
    Calls Try.prog 80 #[.agg #[.bool true, .slice A n c], .agg #[.bool false, .slice B m d]] w (RetJ (sgn false (y - x)) w) := by
  have HC : Hid (∀ wx, Below w.heap.size w wx → Calls Try.prog 88 #[.slice A n c, .slice B m d] wx fun e w' => e = .returned (.int .i64 (cmpI x y)) ∧ Drn wx w') := fun wx hx => compD_any A B n m c d x y wx (h1.keep hx) (h2.keep hx) hn
  have HM : Hid (∀ wx, Below w.heap.size w wx → Calls Try.prog 97 #[.slice B m d, .slice A n c] wx (RetD (y - x) wx)) := fun wx hx => subD_any B A m n d c y x wx (h2.keep hx) (h1.keep hx) hm (by omega)
  have HXY : Hid (y - x < W ^ m) := Nat.lt_of_le_of_lt (Nat.sub_le _ _) h2.pow
  have HCI : Hid (cmpI (x : Int) (y : Int) = -1) := cmpI_lt (by omega)
  rw [HCI.out] at HC
  clear h1 h2 hxy
  obtain ⟨bx, bb⟩ := box3 w (.cells #[.bool true, .slice A n c] 55) (.cells #[.bool false, .slice B m d] 55) #[.bool false, .slice none 0 0] 55
  have BX := Lib.hid bx
  have BB := Lib.hid bb
  clear bx bb
  go_enter Try.func80, Try.ntmps80
  go_wp2_with fail
  (with_reducible refine (HC.out _ BB.out).mono ?_)
  rintro e wq ⟨rfl, q, rfl⟩
  go_wp2_with fail
  go_region_held3 (fun w' => w'.cell? ⟨w.heap.size, 0, none⟩ = some (.bool true) ∧ w'.cell? ⟨w.heap.size, 1, none⟩ = some (.slice A n c) ∧ w'.cell? ⟨w.heap.size + 1, 0, none⟩ = some (.bool false) ∧ w'.cell? ⟨w.heap.size + 1, 1, none⟩ = some (.slice B m d)) (simp [go_sem, World.cell?_alloc_past, *])
    (first
      | (go_at_call 97; (with_reducible refine (HM.out _ (BB.out.trans (Drn.below (Drn.n _ _) _))).mono ?_); rintro e w1 ⟨v, rfl, hD, hB⟩; obtain ⟨A1, n1, c1, rfl⟩ := hD.shape; obtain ⟨hc, hf⟩ := bcell hB; have hn1 := hD.len HXY.out; obtain ⟨z0, z1, z2⟩ := szs (k := w.heap.size) hB (by simp))
      | (go_at_call 84; (with_reducible refine (signed_any _ _ _ _ _ _ (by assumption) (by omega)).mono ?_); rintro e w2 ⟨A2, n2, c2, rfl, hD2, hB2⟩; obtain ⟨hc2, hf2⟩ := bcell hB2; obtain ⟨y0, y1, y2⟩ := szs (k := w.heap.size) hB2 (by (try simp); omega)))
  all_goals go_wp2_with fail
  have hB : Below _ _ w1 := (by first | exact below_undrewN hB | exact below_undrewN1 hB)
  have b1w : Below w.heap.size w w1 := BB.out.trans (hB.mono BB.out.size)
  exact bodyPost_ret (v := .agg #[.bool (decide (sgn false (y - x) < 0)), .slice A2 n2 c2]) (by simp [results, Try.results80, go_sem, *]) rfl
    (retJ_box rfl hD2 ((BX.out.keep hB).keep hB2) (b1w.trans (hB2.mono b1w.size)) (by omega))

set_option maxRecDepth 100000 in
set_option maxHeartbeats 2000000 in
theorem addI_ge_true (A B : Option Addr) (n m c d x y : Nat) (w : World) (h1 : D w (.slice A n c) x) (h2 : D w (.slice B m d) y) (hn : n ≤ 400000) (_hm : m ≤ 400000) (hxy : ¬ x < y) :
    Calls Try.prog 80 #[.agg #[.bool true, .slice A n c], .agg #[.bool false, .slice B m d]] w (RetJ (sgn true (x - y)) w) := by
  have HC : Hid (∀ wx, Below w.heap.size w wx → Calls Try.prog 88 #[.slice A n c, .slice B m d] wx fun e w' => e = .returned (.int .i64 (cmpI x y)) ∧ Drn wx w') := fun wx hx => compD_any A B n m c d x y wx (h1.keep hx) (h2.keep hx) hn
  have HM : Hid (∀ wx, Below w.heap.size w wx → Calls Try.prog 97 #[.slice A n c, .slice B m d] wx (RetD (x - y) wx)) := fun wx hx => subD_any A B n m c d x y wx (h1.keep hx) (h2.keep hx) hn (by omega)
  have HXY : Hid (x - y < W ^ n) := Nat.lt_of_le_of_lt (Nat.sub_le _ _) h1.pow
  obtain ⟨r, hr, hr0⟩ := cmpI_ge (x := (x : Int)) (y := (y : Int)) (by omega)
  rw [hr] at HC
  have hr1 : decide (r < 0) = false := by simp; omega
  clear hr
  clear h1 h2 hxy
  obtain ⟨bx, bb⟩ := box3 w (.cells #[.bool true, .slice A n c] 55) (.cells #[.bool false, .slice B m d] 55) #[.bool false, .slice none 0 0] 55
  have BX := Lib.hid bx
  have BB := Lib.hid bb
  clear bx bb
  go_enter Try.func80, Try.ntmps80
  go_wp2_with fail
  (with_reducible refine (HC.out _ BB.out).mono ?_)
  rintro e wq ⟨rfl, q, rfl⟩
  go_wp2_with fail
  go_region_held3 (fun w' => w'.cell? ⟨w.heap.size, 0, none⟩ = some (.bool true) ∧ w'.cell? ⟨w.heap.size, 1, none⟩ = some (.slice A n c) ∧ w'.cell? ⟨w.heap.size + 1, 0, none⟩ = some (.bool false) ∧ w'.cell? ⟨w.heap.size + 1, 1, none⟩ = some (.slice B m d)) (simp [go_sem, World.cell?_alloc_past, *])
    (first
      | (go_at_call 97; (with_reducible refine (HM.out _ (BB.out.trans (Drn.below (Drn.n _ _) _))).mono ?_); rintro e w1 ⟨v, rfl, hD, hB⟩; obtain ⟨A1, n1, c1, rfl⟩ := hD.shape; obtain ⟨hc, hf⟩ := bcell hB; have hn1 := hD.len HXY.out; obtain ⟨z0, z1, z2⟩ := szs (k := w.heap.size) hB (by simp))
      | (go_at_call 84; (with_reducible refine (signed_any _ _ _ _ _ _ (by assumption) (by omega)).mono ?_); rintro e w2 ⟨A2, n2, c2, rfl, hD2, hB2⟩; obtain ⟨hc2, hf2⟩ := bcell hB2; obtain ⟨y0, y1, y2⟩ := szs (k := w.heap.size) hB2 (by (try simp); omega)))
  all_goals go_wp2_with fail
  have hB : Below _ _ w1 := (by first | exact below_undrewN hB | exact below_undrewN1 hB)
  have b1w : Below w.heap.size w w1 := BB.out.trans (hB.mono BB.out.size)
  exact bodyPost_ret (v := .agg #[.bool (decide (sgn true (x - y) < 0)), .slice A2 n2 c2]) (by simp [results, Try.results80, go_sem, *]) rfl
    (retJ_box rfl hD2 ((BX.out.keep hB).keep hB2) (b1w.trans (hB2.mono b1w.size)) (by omega))

/-- exact.Int.Add. -/
theorem addI_any (b1 b2 : Bool) (A B : Option Addr) (n m c d x y : Nat) (w : World) (h1 : D w (.slice A n c) x) (h2 : D w (.slice B m d) y) (hn : n ≤ 400000) (hm : m ≤ 400000) :
    Calls Try.prog 80 #[.agg #[.bool b1, .slice A n c], .agg #[.bool b2, .slice B m d]] w (RetJ (sgn b1 x + sgn b2 y) w) := by
  by_cases h : b1 = b2
  · subst h
    rw [sgn_add_same]
    exact addI_same b1 A B n m c d x y w h1 h2 hn hm
  · have hb : b2 = !b1 := by cases b1 <;> cases b2 <;> simp_all
    subst hb
    by_cases hxy : x < y
    · rw [sgn_add_lt _ _ _ hxy]
      cases b1
      · exact addI_lt_false A B n m c d x y w h1 h2 hn hm hxy
      · exact addI_lt_true A B n m c d x y w h1 h2 hn hm hxy
    · rw [sgn_add_ge _ _ _ (by omega)]
      cases b1
      · exact addI_ge_false A B n m c d x y w h1 h2 hn hm hxy
      · exact addI_ge_true A B n m c d x y w h1 h2 hn hm hxy

end Go.Proofs.Ytfhmhkbjcccejaa
