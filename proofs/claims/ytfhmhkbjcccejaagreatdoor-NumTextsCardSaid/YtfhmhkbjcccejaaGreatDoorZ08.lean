/- Integers of any size in memory. Lehmer's steps on the leading parts of two long numbers in memory. -/
import Derived.Test.YtfhmhkbjcccejaaGreatDoorZ07
import Derived.Deep.RegionHeld3
import Derived.Test.YtfhmhkbjcccejaaGreatDoorZ06

namespace Go.Proofs.YtfhmhkbjcccejaaGreatDoor
open Go.RowKit

theorem D.open_ {w : World} {A : Option Addr} {n c x : Nat} (h : D w (.slice A n c) x) : ∃ f, n ≤ c ∧ (∀ i, i < n → f i < W) ∧ Nrm f n ∧ V f n = x ∧ Dg w A n f := by
  obtain ⟨A', n', c', f, e, h1, h2, h3, h4, h5, _⟩ := h
  injection e with e1 e2 e3
  subst e1 e2 e3
  exact ⟨f, h1, h2, h3, h4, h5⟩

theorem D.zero {w : World} {A : Option Addr} {n c x : Nat} (h : D w (.slice A n c) x) : x = 0 ↔ n = 0 := by
  obtain ⟨f, h1, h2, h3, h4, h5⟩ := h.open_
  rw [← h4]; exact V_zero_iff h3

theorem D.len {w : World} {A : Option Addr} {n c x K : Nat} (h : D w (.slice A n c) x) (hx : x < W ^ K) : n ≤ K := by
  obtain ⟨f, h1, h2, h3, h4, h5⟩ := h.open_
  exact len_of_lt h3 (by rw [h4]; exact hx)

theorem D.shape {w : World} {v : Value} {x : Nat} (h : D w v x) : ∃ A n c, v = .slice A n c := by
  obtain ⟨A, n, c, f, e, _⟩ := h
  exact ⟨A, n, c, e⟩

theorem D.drew {w : World} {v : Value} {x : Nat} (h : D w v x) : D w.drew v x := Drn.d (Drn.more1 (Drn.refl w)) h

theorem bcell {w w1 : World} (hb : Below w.heap.size w w1) : (∀ b o, b < w.heap.size → w1.cell? ⟨b, o, none⟩ = w.cell? ⟨b, o, none⟩) ∧ (∀ b o, b < w.heap.size → w1.frozen? ⟨b, o, none⟩ = w.frozen? ⟨b, o, none⟩) :=
  ⟨fun b o h => hb.cell (p := ⟨b, o, none⟩) h, fun b o h => hb.frozen (p := ⟨b, o, none⟩) h⟩

/-- Block g holds cells of the type T. -/
def Bx (w : World) (g T : Nat) : Prop := ∃ cs fr, w.heap[g]? = some (.cells cs T fr)
theorem Bx.new (w : World) (cs : Array Value) (T : Nat) : Bx (w.alloc (.cells cs T)) w.heap.size T := ⟨cs, _, heap_alloc_new w _⟩
theorem Bx.new' (w : World) (cs : Array Value) (T : Nat) {g : Nat} (hg : g = w.heap.size) : Bx (w.alloc (.cells cs T)) g T := hg ▸ Bx.new w cs T
theorem Bx.drew {w : World} {g T : Nat} (h : Bx w g T) : Bx w.drew g T := h
theorem Bx.keep {w w' : World} {g T : Nat} (h : Bx w g T) (hb : Below w.heap.size w w') : Bx w' g T := by
  obtain ⟨cs, fr, hc⟩ := h
  exact ⟨cs, fr, (hb.block g (lt_of_heap hc)).trans hc⟩
theorem Bx.alloc {w : World} {g T : Nat} (h : Bx w g T) (o : Obj) : Bx (w.alloc o) g T := h.keep ((Below.refl _ _).alloc (Nat.le_refl _) _)
theorem Bx.set {w : World} {g T : Nat} (h : Bx w g T) (k o : Nat) (u : Value) : Bx (w.setCell ⟨k, o, none⟩ u) g T := by
  obtain ⟨cs, fr, hc⟩ := h
  by_cases e : k = g
  · refine ⟨cs.setIfInBounds o u, fr, ?_⟩
    subst e
    simp [World.setCell, Array.getElem?_modify, hc]
  · refine ⟨cs, fr, ?_⟩
    rw [Below.heap_setCell _ _ _ _ (fun h => e h.symm)]
    exact hc

/-- A store into a block of another type leaves the digits alone. -/
theorem D.set {w : World} {v : Value} {x : Nat} (h : D w v x) {k T : Nat} (hb : Bx w k T) (hT : T ≠ 101) (o : Nat) (u : Value) : D (w.setCell ⟨k, o, none⟩ u) v x := by
  obtain ⟨A, n, c, f, h1, h2, h3, h4, h5, h6, h7⟩ := h
  obtain ⟨cs, fr, hc⟩ := hb
  have key : ∀ b : Nat, (∃ (cs : Array Value) (fr : Nat × Nat), w.heap[b]? = some (Obj.cells cs 101 fr)) → (w.setCell ⟨k, o, none⟩ u).heap[b]? = w.heap[b]? := by
    rintro b ⟨cs', fr', hc'⟩
    refine Below.heap_setCell _ _ _ _ ?_
    rintro rfl
    rw [hc] at hc'
    injection hc' with hc'
    injection hc' with _ ht
    exact hT ht
  refine ⟨A, n, c, f, h1, h2, h3, h4, h5, ?_, ?_⟩
  · intro hn
    obtain ⟨b, off, e, hlt, hcell⟩ := h6 hn
    obtain ⟨b', off', e', ht⟩ := h7 hn
    rw [e] at e'
    injection e' with e'
    injection e' with eb _
    subst eb
    exact ⟨b, off, e, by simpa [World.setCell] using hlt, fun i hi => (World.cell?_of_block (w := w) (a := ⟨b, off + i, none⟩) (key b ht)).trans (hcell i hi)⟩
  · intro hn
    obtain ⟨b, off, e, ht⟩ := h7 hn
    obtain ⟨cs', fr', hc'⟩ := ht
    exact ⟨b, off, e, cs', fr', (key b ⟨cs', fr', hc'⟩).trans hc'⟩

/-- What a function that makes an integer returns. -/
def RetJ (z : Int) (w : World) (e : Ending) (w' : World) : Prop :=
  ∃ A n c, e = .returned (.agg #[.bool (decide (z < 0)), .slice A n c]) ∧ D w' (.slice A n c) z.natAbs ∧ Below w.heap.size w w'

theorem retJ {z : Int} {A : Option Addr} {n c : Nat} {b : Bool} {w w' : World} (hb : b = decide (z < 0)) (hD : D w' (.slice A n c) z.natAbs) (hB : Below w.heap.size w w') : RetJ z w (.returned (.agg #[.bool b, .slice A n c])) w' :=
  ⟨A, n, c, by rw [hb], hD, hB⟩

/-- The result is laid into its box. -/
theorem retJ_box {z : Int} {A : Option Addr} {n c g : Nat} {b : Bool} {w w1 : World} (hb : b = decide (z < 0)) (hD : D w1 (.slice A n c) z.natAbs) (hx : Bx w1 g 45) (hB : Below w.heap.size w w1) (hg : w.heap.size ≤ g) :
    RetJ z w (.returned (.agg #[.bool b, .slice A n c])) ((w1.setCell ⟨g, 0, none⟩ (.bool b)).setCell ⟨g, 1, none⟩ (.slice A n c)) :=
  retJ hb ((hD.set hx (by decide) _ _).set (hx.set _ _ _) (by decide) _ _) ((hB.setCell hg _).setCell hg _)

/-- The integer with a sign and a magnitude. -/
def sgn (b : Bool) (x : Nat) : Int := if b then -(x : Int) else (x : Int)
theorem sgn_abs (b : Bool) (x : Nat) : (sgn b x).natAbs = x := by cases b <;> simp [sgn]

theorem below_alloc (w : World) (o : Obj) : Below w.heap.size w (w.alloc o) := (Below.refl _ _).alloc (Nat.le_refl _) _

theorem signed_any (b : Bool) (A : Option Addr) (n c x : Nat) (w : World) (h : D w (.slice A n c) x) (hn : n ≤ 1000000) :
    Calls Tryz.prog 74 #[.bool b, .slice A n c] w (RetJ (sgn b x) w) := by
  have hz := h.zero
  have HD : Hid (∀ o, D (w.alloc o) (.slice A n c) (sgn b x).natAbs) := fun o => by rw [sgn_abs]; exact h.keep (below_alloc w o)
  cases b
  · have HS : Hid (false = decide (sgn false x < 0)) := by
      show false = _
      simp [sgn]
    clear hz h
    go_enter Tryz.func74, Tryz.ntmps74
    go_wp2_with fail
    exact bodyPost_ret (v := .agg #[.bool false, .slice A n c]) (by simp [results, Tryz.results74, go_sem]) rfl (retJ HS.out (HD.out _) (below_alloc w _))
  · by_cases h0 : n = 0
    · have HS : Hid (false = decide (sgn true x < 0)) := by
        show false = _
        have := hz.2 h0
        simp [sgn, this]
      subst h0
      clear hz h
      go_enter Tryz.func74, Tryz.ntmps74
      go_wp2_with fail
      exact bodyPost_ret (v := .agg #[.bool false, .slice A 0 c]) (by simp [results, Tryz.results74, go_sem]) rfl (retJ HS.out (HD.out _) (below_alloc w _))
    · have HS : Hid (true = decide (sgn true x < 0)) := by
        show true = _
        have : x ≠ 0 := fun e => h0 (hz.1 e)
        simp [sgn]; omega
      have h1 : 0 < n := by omega
      clear hz h h0
      go_enter Tryz.func74, Tryz.ntmps74
      go_wp2_with fail
      exact bodyPost_ret (v := .agg #[.bool true, .slice A n c]) (by simp [results, Tryz.results74, go_sem]) rfl (retJ HS.out (HD.out _) (below_alloc w _))

set_option maxRecDepth 100000 in
theorem neg_any (b : Bool) (A : Option Addr) (n c x : Nat) (w : World) (h : D w (.slice A n c) x) (hn : n ≤ 1000000) :
    Calls Tryz.prog 49 #[.agg #[.bool b, .slice A n c]] w (RetJ (sgn (!b) x) w) := by
  have HS : Hid (∀ wx, Below w.heap.size w wx → Calls Tryz.prog 74 #[.bool (!b), .slice A n c] wx (RetJ (sgn (!b) x) wx)) := fun wx hx => signed_any (!b) A n c x wx (h.keep hx) hn
  clear h
  go_enter Tryz.func49, Tryz.ntmps49
  go_wp2_with fail
  (with_reducible refine (HS.out _ ?_).mono ?_)
  · exact ((Below.refl _ _).alloc (Nat.le_refl _) _).alloc (by simp) _
  rintro e w1 ⟨A1, n1, c1, rfl, hD, hB⟩
  obtain ⟨hc, hf⟩ := bcell hB
  go_wp2_with fail
  exact bodyPost_ret (v := .agg #[.bool (decide (sgn (!b) x < 0)), .slice A1 n1 c1]) (by simp [results, Tryz.results49, go_sem, hc]) rfl
    (retJ_box rfl hD ((Bx.new' (w.alloc _) _ 45 (by simp)).keep hB) ((((Below.refl _ _).alloc (Nat.le_refl _) _).alloc (by simp) _).trans (hB.mono (by simp; omega))) (by omega))

theorem box3 (w : World) (o1 o2 : Obj) (cs : Array Value) (T : Nat) : Bx (((w.alloc o1).alloc o2).alloc (.cells cs T)) (w.heap.size + 1 + 1) T ∧ Below w.heap.size w (((w.alloc o1).alloc o2).alloc (.cells cs T)) :=
  ⟨Bx.new' _ _ T (by simp), (((Below.refl _ _).alloc (Nat.le_refl _) _).alloc (by simp) _).alloc (by simp; omega) _⟩

theorem below_undrew {B : Nat} {X w : World} (h : Below B X.drew w) : Below B X w := ⟨h.os, h.tape, h.output, h.size, h.block⟩
theorem below_undrew' {X w : World} (h : Below X.drew.heap.size X.drew w) : Below X.heap.size X w := ⟨h.os, h.tape, h.output, h.size, h.block⟩

theorem szs {X w1 : World} {k : Nat} (hB : Below X.heap.size X w1) (hX : k + 2 < X.heap.size) : k < w1.heap.size ∧ k + 1 < w1.heap.size ∧ k + 2 < w1.heap.size := by
  have := hB.size
  omega

/-- Two boxes of two cells each hold these values. -/
def Fr (g : Nat) (p q r s : Value) (w' : World) : Prop := w'.cell? ⟨g, 0, none⟩ = some p ∧ w'.cell? ⟨g, 1, none⟩ = some q ∧ w'.cell? ⟨g + 1, 0, none⟩ = some r ∧ w'.cell? ⟨g + 1, 1, none⟩ = some s
theorem Fr.keep {g : Nat} {p q r s : Value} {X w1 : World} (h : Fr g p q r s X) (hz : g + 1 < X.heap.size) (hB : Below X.heap.size X w1) : Fr g p q r s w1 := by
  obtain ⟨h1, h2, h3, h4⟩ := h
  exact ⟨(hB.cell (p := ⟨g, 0, none⟩) (by show g < _; omega)).trans h1, (hB.cell (p := ⟨g, 1, none⟩) (by show g < _; omega)).trans h2, (hB.cell (p := ⟨g + 1, 0, none⟩) hz).trans h3, (hB.cell (p := ⟨g + 1, 1, none⟩) hz).trans h4⟩
theorem Fr.set {g : Nat} {p q r s : Value} {X : World} (h : Fr g p q r s X) {k : Nat} (hk : g + 1 < k) (o : Nat) (u : Value) : Fr g p q r s (X.setCell ⟨k, o, none⟩ u) := by
  obtain ⟨h1, h2, h3, h4⟩ := h
  have key : ∀ (b i : Nat), b ≠ k → (X.setCell ⟨k, o, none⟩ u).cell? ⟨b, i, none⟩ = X.cell? ⟨b, i, none⟩ := fun b i hb => World.cell?_setCell_other X ⟨k, o, none⟩ ⟨b, i, none⟩ u (fun e => hb (by have h := congrArg Addr.block e; first | exact h | exact h.symm))
  exact ⟨(key _ _ (by omega)).trans h1, (key _ _ (by omega)).trans h2, (key _ _ (by omega)).trans h3, (key _ _ (by omega)).trans h4⟩
theorem Fr.set2 {g : Nat} {p q r s : Value} {X : World} (h : Fr g p q r s X) {k : Nat} (hk : g + 1 < k) (u v : Value) : Fr g p q r s ((X.setCell ⟨k, 0, none⟩ u).setCell ⟨k, 1, none⟩ v) := (h.set hk _ _).set hk _ _
theorem Fr.drew {g : Nat} {p q r s : Value} {X : World} (h : Fr g p q r s X) : Fr g p q r s X.drew := h
theorem Fr.out {g : Nat} {p q r s : Value} {w' : World} (h : Fr g p q r s w') : w'.cell? ⟨g, 0, none⟩ = some p ∧ w'.cell? ⟨g, 1, none⟩ = some q ∧ w'.cell? ⟨g + 1, 0, none⟩ = some r ∧ w'.cell? ⟨g + 1, 1, none⟩ = some s := h

/-- A box of two cells that may be written. -/
def Wr (g T : Nat) (w' : World) : Prop := (∃ p q, w'.cell? ⟨g, 0, none⟩ = some p ∧ w'.cell? ⟨g, 1, none⟩ = some q) ∧ w'.frozen? ⟨g, 0, none⟩ = false ∧ w'.frozen? ⟨g, 1, none⟩ = false ∧ Bx w' g T
theorem Wr.keep {g T : Nat} {X w1 : World} (h : Wr g T X) (hB : Below X.heap.size X w1) : Wr g T w1 := by
  obtain ⟨⟨p, q, h1, h2⟩, h3, h4, h5⟩ := h
  obtain ⟨cs, fr, hc⟩ := h5
  have hz := lt_of_heap hc
  exact ⟨⟨p, q, (hB.cell (p := ⟨g, 0, none⟩) hz).trans h1, (hB.cell (p := ⟨g, 1, none⟩) hz).trans h2⟩, (hB.frozen (p := ⟨g, 0, none⟩) hz).trans h3, (hB.frozen (p := ⟨g, 1, none⟩) hz).trans h4, Bx.keep ⟨cs, fr, hc⟩ hB⟩
theorem Wr.new (w : World) (p q : Value) (T : Nat) {g : Nat} (hg : g = w.heap.size) : Wr g T (w.alloc (.cells #[p, q] T)) := by
  subst hg
  refine ⟨⟨p, q, ?_, ?_⟩, ?_, ?_, Bx.new w _ T⟩ <;> simp [go_sem]
theorem Wr.drew {g T : Nat} {X : World} (h : Wr g T X) : Wr g T X.drew := h

/-- Two boxes for the arguments, one for the result. -/
theorem frame3 (w : World) (p q r s t u : Value) : Below w.heap.size w (((w.alloc (.cells #[p, q] 45)).alloc (.cells #[r, s] 45)).alloc (.cells #[t, u] 45)) ∧ w.heap.size + 3 = (((w.alloc (.cells #[p, q] 45)).alloc (.cells #[r, s] 45)).alloc (.cells #[t, u] 45)).heap.size ∧
    Wr (w.heap.size + 1 + 1) 45 (((w.alloc (.cells #[p, q] 45)).alloc (.cells #[r, s] 45)).alloc (.cells #[t, u] 45)) ∧ Fr w.heap.size p q r s (((w.alloc (.cells #[p, q] 45)).alloc (.cells #[r, s] 45)).alloc (.cells #[t, u] 45)) :=
  ⟨(((Below.refl _ _).alloc (Nat.le_refl _) _).alloc (by simp) _).alloc (by simp; omega) _, by simp, Wr.new _ _ _ 45 (by simp), by simp [Fr, go_sem]⟩

theorem sgn_mul (b1 b2 : Bool) (x y : Nat) : sgn b1 x * sgn b2 y = sgn (!b1 == b2) (x * y) := by
  cases b1 <;> cases b2 <;> simp [sgn, Int.neg_mul, Int.mul_neg]

theorem D.pow {w : World} {A : Option Addr} {n c x : Nat} (h : D w (.slice A n c) x) : x < W ^ n := by
  obtain ⟨f, h1, h2, h3, h4, h5⟩ := h.open_
  rw [← h4]; exact V_lt h2

theorem mul_lt_pow {x y n m : Nat} (hx : x < W ^ n) (hy : y < W ^ m) : x * y < W ^ (n + m) := by
  rw [Nat.pow_add]
  rcases Nat.eq_zero_or_pos y with h | h
  · subst h; rw [Nat.mul_zero]; exact Nat.mul_pos (pow_pos' n) (pow_pos' m)
  · exact Nat.lt_of_lt_of_le (Nat.mul_lt_mul_of_pos_right hx h) (Nat.mul_le_mul_left _ (Nat.le_of_lt hy))

set_option maxRecDepth 100000 in
set_option maxHeartbeats 2000000 in
theorem mulI_any (b1 b2 : Bool) (A B : Option Addr) (n m c d x y : Nat) (w : World) (h1 : D w (.slice A n c) x) (h2 : D w (.slice B m d) y) (hn : n ≤ 400000) (hm : m ≤ 400000) :
    Calls Tryz.prog 62 #[.agg #[.bool b1, .slice A n c], .agg #[.bool b2, .slice B m d]] w (RetJ (sgn b1 x * sgn b2 y) w) := by
  obtain ⟨f, f1, f2, f3, f4, f5⟩ := h1.open_
  obtain ⟨g, g1, g2, g3, g4, g5⟩ := h2.open_
  have HM : Hid (∀ wx, Below w.heap.size w wx → Calls Tryz.prog 53 #[.slice A n c, .slice B m d] wx (RetD (x * y) wx)) := fun wx hx => by
    rw [← f4, ← g4]; exact mul_any A B n m c d f g wx (by omega) (by omega) (f5.keep hx) (g5.keep hx) f2 g2
  have HXY := Lib.hid (mul_lt_pow h1.pow h2.pow)
  rw [sgn_mul]
  clear f1 f2 f3 f4 f5 g1 g2 g3 g4 g5 h1 h2
  go_enter Tryz.func62, Tryz.ntmps62
  go_wp2_with fail
  go_region_held3 (fun w' => w'.cell? ⟨w.heap.size, 0, none⟩ = some (.bool b1) ∧ w'.cell? ⟨w.heap.size, 1, none⟩ = some (.slice A n c) ∧ w'.cell? ⟨w.heap.size + 1, 0, none⟩ = some (.bool b2) ∧ w'.cell? ⟨w.heap.size + 1, 1, none⟩ = some (.slice B m d)) (simp [go_sem, World.cell?_alloc_past, *])
    (first
      | (go_at_call 53; (with_reducible refine (HM.out _ (by repeat (first | exact Below.refl _ _ | refine Below.drew ?_ | refine Below.alloc ?_ (by simp <;> omega) _))).mono ?_); rintro e w1 ⟨v, rfl, hD, hB⟩; obtain ⟨A1, n1, c1, rfl⟩ := hD.shape; obtain ⟨hc, hf⟩ := bcell hB; have hn1 := hD.len HXY.out; obtain ⟨z0, z1, z2⟩ := szs (k := w.heap.size) hB (by simp))
      | (go_at_call 74; (with_reducible refine (signed_any _ _ _ _ _ _ (by assumption) (by omega)).mono ?_); rintro e w2 ⟨A2, n2, c2, rfl, hD2, hB2⟩; obtain ⟨hc2, hf2⟩ := bcell hB2; obtain ⟨y0, y1, y2⟩ := szs (k := w.heap.size) hB2 (by (try simp); omega)))
  all_goals go_wp2_with fail
  obtain ⟨bx, bb⟩ := box3 w (.cells #[.bool b1, .slice A n c] 45) (.cells #[.bool b2, .slice B m d] 45) #[.bool false, .slice none 0 0] 45
  have hB := below_undrew' hB
  have b1w : Below w.heap.size w w1 := bb.trans (hB.mono bb.size)
  exact bodyPost_ret (v := .agg #[.bool (decide (sgn (!b1 == b2) (x * y) < 0)), .slice A2 n2 c2]) (by simp [results, Tryz.results62, go_sem, *]) rfl
    (retJ_box rfl hD2 ((bx.keep hB).keep hB2) (b1w.trans (hB2.mono b1w.size)) (by omega))

end Go.Proofs.YtfhmhkbjcccejaaGreatDoor

namespace Go.Proofs.YtfhmhkbjcccejaaGreatDoor
open Go.RowKit

/-- What Lehmer's steps return. -/
def RetF (a b : Int) (w : World) (e : Ending) (w' : World) : Prop :=
  ∃ A B C D : Int, e = .returned (.agg #[.int .i64 A, .int .i64 B, .int .i64 C, .int .i64 D]) ∧ FacOk a b A B C D ∧ Below w.heap.size w w'

/-- The state of the loop. -/
def LeadRel (w : World) (g : Nat) (a b x0 y0 : Int) (s t : Value) (wr : World) : Prop :=
  ∃ A B C D x y : Int, s = .int .i64 x ∧ t = .int .i64 y ∧ Hid (LT a b x0 y0 A B C D x y) ∧ FB w.heap.size 0 0 0 0 wr ∧ FB g A B C D wr ∧ Hid (Below w.heap.size w wr)

set_option maxRecDepth 100000 in
set_option maxHeartbeats 4000000 in
theorem leading_any (A B : Option Addr) (n m ca cb : Nat) (f g : Nat → Nat) (w : World) (hn : n ≤ 999999) (hm : 2 < m) (hmn : m ≤ n) (hA : Dg w A n f) (hB : Dg w B m g)
    (hf : ∀ i, i < n → f i < W) (hg : ∀ i, i < m → g i < W) (hfn : Nrm f n) (hle : V g m ≤ V f n) :
    Calls Tryz.prog 102 #[.slice A n ca, .slice B m cb] w (RetF ((V f n : Nat) : Int) ((V g m : Nat) : Int) w) := by
  obtain ⟨r, r1, r2, r3, r4, -⟩ := bits_any A n ca f w (by omega) (by omega) hA hf hfn
  obtain ⟨cut, hcut⟩ : ∃ cut, cut = r - 60 := ⟨_, rfl⟩
  have HBt : Hid (∀ wx, Below w.heap.size w wx → Calls Tryz.prog 121 #[.slice A n ca] wx fun e w' => e = .returned (.int .i64 ((cut : Int) + 60)) ∧ wx = w') := fun wx hx => by
    obtain ⟨r', q1, q2, q3, q4, q5⟩ := bits_any A n ca f wx (by omega) (by omega) (hA.keep hx) hf hfn
    have e : r' = r := by
      have h1 : r - 1 < r' := (Nat.pow_lt_pow_iff_right (by omega : 1 < 2)).1 (Nat.lt_of_le_of_lt r3 q4)
      have h2 : r' - 1 < r := (Nat.pow_lt_pow_iff_right (by omega : 1 < 2)).1 (Nat.lt_of_le_of_lt q3 r4)
      omega
    subst e
    rw [show (cut : Int) + 60 = (r' : Int) from by omega]
    exact q5
  obtain ⟨P, hP⟩ : ∃ P, P = 2 ^ cut := ⟨_, rfl⟩
  have hP0 : 0 < P := by rw [hP]; exact two_pow_pos cut
  obtain ⟨X, hX⟩ : ∃ X, X = V f n / P := ⟨_, rfl⟩
  obtain ⟨Y, hY⟩ : ∃ Y, Y = V g m / P := ⟨_, rfl⟩
  have hX1 : X < 1152921504606846976 := by
    rw [hX, Nat.div_lt_iff_lt_mul hP0, hP, show (1152921504606846976 : Nat) = 2 ^ 60 from rfl, ← Nat.pow_add, show 60 + cut = r from by omega]
    exact r4
  have hX0 : 576460752303423488 ≤ X := by
    rw [hX, Nat.le_div_iff_mul_le hP0, hP, show (576460752303423488 : Nat) = 2 ^ 59 from rfl, ← Nat.pow_add, show 59 + cut = r - 1 from by omega]
    exact r3
  have hYX : Y ≤ X := by rw [hX, hY]; exact Nat.div_le_div_right hle
  have HWa : Hid (∀ wx, Below w.heap.size w wx → Calls Tryz.prog 122 #[.slice A n ca, .int .i64 (cut : Int)] wx fun e w' => e = .returned (.int .i64 (X : Int)) ∧ Drn wx w') := fun wx hx =>
    window_any A n ca cut (cut / 32) (cut % 32) X f wx (by omega) (by omega) (by omega) (hA.keep hx) hf (by omega) (by rw [hX, hP]) hX1
  have HWb : Hid (∀ wx, Below w.heap.size w wx → Calls Tryz.prog 122 #[.slice B m cb, .int .i64 (cut : Int)] wx fun e w' => e = .returned (.int .i64 (Y : Int)) ∧ Drn wx w') := fun wx hx =>
    window_any B m cb cut (cut / 32) (cut % 32) Y g wx (by omega) (by omega) (by omega) (hB.keep hx) hg (by omega) (by rw [hY, hP]) (by omega)
  have ha : ((V f n : Nat) : Int) = (X : Int) * (P : Int) + ((V f n % P : Nat) : Int) := by
    have := Nat.div_add_mod (V f n) P
    rw [← hX, Nat.mul_comm] at this
    rw [← Int.natCast_mul, ← Int.natCast_add, this]
  have hb : ((V g m : Nat) : Int) = (Y : Int) * (P : Int) + ((V g m % P : Nat) : Int) := by
    have := Nat.div_add_mod (V g m) P
    rw [← hY, Nat.mul_comm] at this
    rw [← Int.natCast_mul, ← Int.natCast_add, this]
  have ma := Nat.mod_lt (V f n) hP0
  have mb := Nat.mod_lt (V g m) hP0
  have hcb : cut ≤ 40000000 := by omega
  generalize ((V f n : Nat) : Int) = a at *
  generalize ((V g m : Nat) : Int) = b at *
  have HST : Hid (∀ A B C D x y q : Int, LT a b X Y A B C D x y → 0 < y + C → 0 < y + D → q * (y + C) ≤ x + A → x + A < q * (y + C) + (y + C) → q * (y + D) ≤ x + B → x + B < q * (y + D) + (y + D) → 0 ≤ q →
      LT a b X Y C D (A - q * C) (B - q * D) y (x - q * y) ∧ x - q * y < y) := fun A B C D x y q h1 h2 h3 h4 h5 h6 h7 h8 =>
    h1.step (by omega) (by omega) (by omega) (by omega) h2 h3 h4 h5 h6 h7 h8 ha hb (by omega) (by omega) (by omega) (by omega)
  have HBD : Hid (∀ A B C D x y : Int, LS X Y A B C D x y → 0 ≤ y ∧ y ≤ x ∧ x < 1152921504606846976 ∧ -2147483648 < A ∧ A < 2147483648 ∧ -2147483648 < B ∧ B < 2147483648 ∧ -2147483648 < C ∧ C < 2147483648 ∧ -2147483648 < D ∧ D < 2147483648 ∧ 0 ≤ x + A ∧ 0 ≤ x + B ∧ 0 ≤ y + C ∧ 0 ≤ y + D) := fun A B C D x y h =>
    h.bounds (by omega) (by omega) (by omega)
  have HS0 : Hid (LT a b X Y 1 0 0 1 X Y) := ⟨LS.start (by omega) (by omega), Or.inl ⟨rfl, rfl, rfl, rfl⟩⟩
  clear ha hb ma mb hX hY hP hP0 hX0 hX1 hYX r1 r2 r3 r4 hcut hle hfn hf hg
  go_enter Tryz.func102, Tryz.ntmps102
  go_wp2_with fail
  (with_reducible refine (HBt.out _ (below_alloc _ _)).mono ?_)
  rintro e w1 ⟨rfl, rfl⟩
  go_wp2_with fail
  (with_reducible refine (HWa.out _ (below_alloc _ _)).mono ?_)
  rintro e w1 ⟨rfl, hd1⟩
  have F1 := (FB.new w 0 0 0 0 126 rfl).keep (hd1.below _)
  have HB1 := Lib.hid ((below_alloc w (.cells #[.int .i64 0, .int .i64 0, .int .i64 0, .int .i64 0] 126)).trans (hd1.below _))
  clear hd1
  go_wp2_with fail
  (with_reducible refine (HWb.out _ HB1.out).mono ?_)
  rintro e w2 ⟨rfl, hd2⟩
  have F2 := F1.keep (hd2.below _)
  have HB2 := Lib.hid (HB1.out.trans (hd2.below _))
  have hne : w.heap.size ≠ w2.heap.size := by have := F2.lt; omega
  have hlw : w.heap.size ≤ w2.heap.size := HB2.out.size
  clear hd2 F1 HB1
  go_wp2_with fail
  generalize hg0 : w2.heap.size = g0 at *
  go_loopw [6, 7] (fun s t wr => LeadRel w g0 a b X Y s t wr) (fun _ t _ => (intOf t).toNat)
  case atStart => exact ⟨1, 0, 0, 1, X, Y, rfl, rfl, HS0, F2.keep (below_alloc _ _), FB.new w2 1 0 0 1 126 hg0.symm, Lib.hid (HB2.out.alloc HB2.out.size _)⟩
  case round =>
    obtain ⟨A', B', C', D', x, y, rfl, rfl, hlt, FR, FG, hbel⟩ := hrel
    have hbd := HBD.out _ _ _ _ _ _ hlt.out.ls
    obtain ⟨b1, b2, b3, b4, b5, b6, b7, b8, b9, b10, b11, b12, b13, b14, b15⟩ := hbd
    have HFR := Lib.hid FR
    have HFG := Lib.hid FG
    obtain ⟨r0, r1, r2, r3, rf0, rf1, rf2, rf3, rlt⟩ := FR
    obtain ⟨c0, c1, c2, c3, cf0, cf1, cf2, cf3, clt⟩ := FG
    by_cases z1 : y + C' = 0
    · have z1' : (y + C' != 0) = false := by simp [z1]
      clear F2 HB2 HS0 HST HBD HWa HWb HBt
      go_wp2_with fail
      exact bodyPost_ret (v := .agg #[.int .i64 A', .int .i64 B', .int .i64 C', .int .i64 D']) (by simp [results, Tryz.results102, go_sem, r0, r1, r2, r3]) rfl
        ⟨A', B', C', D', rfl, hlt.out.ok, (((hbel.out.setCell (Nat.le_refl _) _).setCell (Nat.le_refl _) _).setCell (Nat.le_refl _) _).setCell (Nat.le_refl _) _⟩
    · have z1' : (y + C' != 0) = true := by simp [z1]
      by_cases z2 : y + D' = 0
      · have z2' : (y + D' != 0) = false := by simp [z2]
        clear F2 HB2 HS0 HST HBD HWa HWb HBt
        go_wp2_with fail
        exact bodyPost_ret (v := .agg #[.int .i64 A', .int .i64 B', .int .i64 C', .int .i64 D']) (by simp [results, Tryz.results102, go_sem, r0, r1, r2, r3]) rfl
          ⟨A', B', C', D', rfl, hlt.out.ok, (((hbel.out.setCell (Nat.le_refl _) _).setCell (Nat.le_refl _) _).setCell (Nat.le_refl _) _).setCell (Nat.le_refl _) _⟩
      · have z2' : (y + D' != 0) = true := by simp [z2]
        obtain ⟨p1, p2, p3⟩ := hlt.out.ls.ypos z1 z2
        have hq1 := quo_bounds p1 b12
        have hq2 := quo_bounds p2 b13
        rw [Int.tdiv_eq_ediv_of_nonneg b12] at hq1
        rw [Int.tdiv_eq_ediv_of_nonneg b13] at hq2
        obtain ⟨q, hq⟩ : ∃ q, (x + A') / (y + C') = q := ⟨_, rfl⟩
        obtain ⟨q', hq'⟩ : ∃ q', (x + B') / (y + D') = q' := ⟨_, rfl⟩
        rw [hq] at hq1
        rw [hq'] at hq2
        obtain ⟨e1, e2, e3, e4⟩ := hq1
        obtain ⟨g1, g2, g3, g4⟩ := hq2
        have E := Lib.hid (And.intro e1 e2)
        have G := Lib.hid (And.intro g1 g2)
        clear e1 e2 g1 g2 F2 HB2 HS0 HWa HWb HBt
        by_cases hqq : q = q'
        · subst hqq
          obtain ⟨hl', hy'⟩ := HST.out _ _ _ _ _ _ q hlt.out p1 p2 E.out.1 E.out.2 G.out.1 G.out.2 e3
          have hbd' := HBD.out _ _ _ _ _ _ hl'.ls
          clear HST HBD E G
          have hqb : (q != q) = false := by simp
          obtain ⟨m1, hm1⟩ : ∃ m1, q * C' = m1 := ⟨_, rfl⟩
          obtain ⟨m2, hm2⟩ : ∃ m2, q * D' = m2 := ⟨_, rfl⟩
          obtain ⟨m3, hm3⟩ : ∃ m3, q * y = m3 := ⟨_, rfl⟩
          rw [hm1, hm2, hm3] at hbd' hl'
          have HL := Lib.hid hl'
          clear hl'
          rw [hm3] at hy'
          obtain ⟨d1, d2, d3, d4, d5, d6, d7, d8, d9, d10, d11, d12, d13, d14, d15⟩ := hbd'
          go_wp2_with fail
          exact ⟨⟨C', D', A' - m1, B' - m2, y, x - m3, rfl, rfl, HL, (((HFR.out.far hne _ _).far hne _ _).far hne _ _).far hne _ _, HFG.out.set _ _ _ _, Lib.hid ((((hbel.out.setCell hlw _).setCell hlw _).setCell hlw _).setCell hlw _)⟩, by simp only [intOf]; omega⟩
        · have hqb : (q != q') = true := by simp [hqq]
          clear HST HBD E G
          go_wp2_with fail
          exact bodyPost_ret (v := .agg #[.int .i64 A', .int .i64 B', .int .i64 C', .int .i64 D']) (by simp [results, Tryz.results102, go_sem, r0, r1, r2, r3]) rfl
            ⟨A', B', C', D', rfl, hlt.out.ok, (((hbel.out.setCell (Nat.le_refl _) _).setCell (Nat.le_refl _) _).setCell (Nat.le_refl _) _).setCell (Nat.le_refl _) _⟩

end Go.Proofs.YtfhmhkbjcccejaaGreatDoor
