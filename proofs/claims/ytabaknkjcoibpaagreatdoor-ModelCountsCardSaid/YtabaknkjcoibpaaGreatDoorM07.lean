/- Integers of any size in memory. Lists of digits of the reference in memory. The order of two lists of digits of the reference; digits 0 at the end. -/
import Derived.Test.YtabaknkjcoibpaaGreatDoorM06
import Derived.Deep.RegionHeld3
import Derived.Test.YtabaknkjcoibpaaGreatDoorM00
import Derived.Laws.AppendOwn
import Derived.IntWalk
import Derived.LoopTactic
import Derived.Deep.CutRange
import Derived.Deep.CutBlock
import Derived.Deep.DeepCutAuto
import Derived.Test.YtabaknkjcoibpaaGreatDoorM01

namespace Go.Proofs.YtabaknkjcoibpaaGreatDoor
open Go.RowKit

theorem D.open_ {w : World} {A : Option Addr} {n c x : Nat} (h : D w (.slice A n c) x) : ∃ f, n ≤ c ∧ (∀ i, i < n → f i < W) ∧ Nrm f n ∧ V f n = x ∧ Dg w A n f := by
  obtain ⟨A', n', c', f, e, h1, h2, h3, h4, h5, _⟩ := h
  injection e with e1 e2 e3
  subst e1 e2 e3
  exact ⟨f, h1, h2, h3, h4, h5⟩

theorem D.zero {w : World} {A : Option Addr} {n c x : Nat} (h : D w (.slice A n c) x) : x = 0 ↔ n = 0 := by
  obtain ⟨f, h1, h2, h3, h4, h5⟩ := h.open_
  rw [← h4]; exact V_zero_iff h3

theorem D.len {w : World} {A : Option Addr} {n c x K : Nat} (h : D w (.slice A n c) x) (hx : x < W ^ K) : n ≤ K := by
  obtain ⟨f, h1, h2, h3, h4, h5⟩ := h.open_
  exact len_of_lt h3 (by rw [h4]; exact hx)

theorem D.shape {w : World} {v : Value} {x : Nat} (h : D w v x) : ∃ A n c, v = .slice A n c := by
  obtain ⟨A, n, c, f, e, _⟩ := h
  exact ⟨A, n, c, e⟩

theorem D.drew {w : World} {v : Value} {x : Nat} (h : D w v x) : D w.drew v x := Drn.d (Drn.more1 (Drn.refl w)) h

theorem bcell {w w1 : World} (hb : Below w.heap.size w w1) : (∀ b o, b < w.heap.size → w1.cell? ⟨b, o, none⟩ = w.cell? ⟨b, o, none⟩) ∧ (∀ b o, b < w.heap.size → w1.frozen? ⟨b, o, none⟩ = w.frozen? ⟨b, o, none⟩) :=
  ⟨fun b o h => hb.cell (p := ⟨b, o, none⟩) h, fun b o h => hb.frozen (p := ⟨b, o, none⟩) h⟩

/-- Block g holds cells of the type T. -/
def Bx (w : World) (g T : Nat) : Prop := ∃ cs fr, w.heap[g]? = some (.cells cs T fr)
theorem Bx.new (w : World) (cs : Array Value) (T : Nat) : Bx (w.alloc (.cells cs T)) w.heap.size T := ⟨cs, _, heap_alloc_new w _⟩
theorem Bx.new' (w : World) (cs : Array Value) (T : Nat) {g : Nat} (hg : g = w.heap.size) : Bx (w.alloc (.cells cs T)) g T := hg ▸ Bx.new w cs T
theorem Bx.drew {w : World} {g T : Nat} (h : Bx w g T) : Bx w.drew g T := h
theorem Bx.keep {w w' : World} {g T : Nat} (h : Bx w g T) (hb : Below w.heap.size w w') : Bx w' g T := by
  obtain ⟨cs, fr, hc⟩ := h
  exact ⟨cs, fr, (hb.block g (lt_of_heap hc)).trans hc⟩
theorem Bx.alloc {w : World} {g T : Nat} (h : Bx w g T) (o : Obj) : Bx (w.alloc o) g T := h.keep ((Below.refl _ _).alloc (Nat.le_refl _) _)
theorem Bx.set {w : World} {g T : Nat} (h : Bx w g T) (k o : Nat) (u : Value) : Bx (w.setCell ⟨k, o, none⟩ u) g T := by
  obtain ⟨cs, fr, hc⟩ := h
  by_cases e : k = g
  · refine ⟨cs.setIfInBounds o u, fr, ?_⟩
    subst e
    simp [World.setCell, Array.getElem?_modify, hc]
  · refine ⟨cs, fr, ?_⟩
    rw [Below.heap_setCell _ _ _ _ (fun h => e h.symm)]
    exact hc

/-- A store into a block of another type leaves the digits alone. -/
theorem D.set {w : World} {v : Value} {x : Nat} (h : D w v x) {k T : Nat} (hb : Bx w k T) (hT : T ≠ 193) (o : Nat) (u : Value) : D (w.setCell ⟨k, o, none⟩ u) v x := by
  obtain ⟨A, n, c, f, h1, h2, h3, h4, h5, h6, h7⟩ := h
  obtain ⟨cs, fr, hc⟩ := hb
  have key : ∀ b : Nat, (∃ (cs : Array Value) (fr : Nat × Nat), w.heap[b]? = some (Obj.cells cs 193 fr)) → (w.setCell ⟨k, o, none⟩ u).heap[b]? = w.heap[b]? := by
    rintro b ⟨cs', fr', hc'⟩
    refine Below.heap_setCell _ _ _ _ ?_
    rintro rfl
    rw [hc] at hc'
    injection hc' with hc'
    injection hc' with _ ht
    exact hT ht
  refine ⟨A, n, c, f, h1, h2, h3, h4, h5, ?_, ?_⟩
  · intro hn
    obtain ⟨b, off, e, hlt, hcell⟩ := h6 hn
    obtain ⟨b', off', e', ht⟩ := h7 hn
    rw [e] at e'
    injection e' with e'
    injection e' with eb _
    subst eb
    exact ⟨b, off, e, by simpa [World.setCell] using hlt, fun i hi => (World.cell?_of_block (w := w) (a := ⟨b, off + i, none⟩) (key b ht)).trans (hcell i hi)⟩
  · intro hn
    obtain ⟨b, off, e, ht⟩ := h7 hn
    obtain ⟨cs', fr', hc'⟩ := ht
    exact ⟨b, off, e, cs', fr', (key b ⟨cs', fr', hc'⟩).trans hc'⟩

/-- What a function that makes an integer returns. -/
def RetJ (z : Int) (w : World) (e : Ending) (w' : World) : Prop :=
  ∃ A n c, e = .returned (.agg #[.bool (decide (z < 0)), .slice A n c]) ∧ D w' (.slice A n c) z.natAbs ∧ Below w.heap.size w w'

theorem retJ {z : Int} {A : Option Addr} {n c : Nat} {b : Bool} {w w' : World} (hb : b = decide (z < 0)) (hD : D w' (.slice A n c) z.natAbs) (hB : Below w.heap.size w w') : RetJ z w (.returned (.agg #[.bool b, .slice A n c])) w' :=
  ⟨A, n, c, by rw [hb], hD, hB⟩

/-- The result is laid into its box. -/
theorem retJ_box {z : Int} {A : Option Addr} {n c g : Nat} {b : Bool} {w w1 : World} (hb : b = decide (z < 0)) (hD : D w1 (.slice A n c) z.natAbs) (hx : Bx w1 g 183) (hB : Below w.heap.size w w1) (hg : w.heap.size ≤ g) :
    RetJ z w (.returned (.agg #[.bool b, .slice A n c])) ((w1.setCell ⟨g, 0, none⟩ (.bool b)).setCell ⟨g, 1, none⟩ (.slice A n c)) :=
  retJ hb ((hD.set hx (by decide) _ _).set (hx.set _ _ _) (by decide) _ _) ((hB.setCell hg _).setCell hg _)

/-- The integer with a sign and a magnitude. -/
def sgn (b : Bool) (x : Nat) : Int := if b then -(x : Int) else (x : Int)
theorem sgn_abs (b : Bool) (x : Nat) : (sgn b x).natAbs = x := by cases b <;> simp [sgn]

theorem below_alloc (w : World) (o : Obj) : Below w.heap.size w (w.alloc o) := (Below.refl _ _).alloc (Nat.le_refl _) _

theorem signed_any (b : Bool) (A : Option Addr) (n c x : Nat) (w : World) (h : D w (.slice A n c) x) (hn : n ≤ 1000000) :
    Calls Tryz.prog 242 #[.bool b, .slice A n c] w (RetJ (sgn b x) w) := by
  have hz := h.zero
  have HD : Hid (∀ o, D (w.alloc o) (.slice A n c) (sgn b x).natAbs) := fun o => by rw [sgn_abs]; exact h.keep (below_alloc w o)
  cases b
  · have HS : Hid (false = decide (sgn false x < 0)) := by
      show false = _
      simp [sgn]
    clear hz h
    go_enter Tryz.func242, Tryz.ntmps242
    go_wp2_with fail
    exact bodyPost_ret (v := .agg #[.bool false, .slice A n c]) (by simp [results, Tryz.results242, go_sem]) rfl (retJ HS.out (HD.out _) (below_alloc w _))
  · by_cases h0 : n = 0
    · have HS : Hid (false = decide (sgn true x < 0)) := by
        show false = _
        have := hz.2 h0
        simp [sgn, this]
      subst h0
      clear hz h
      go_enter Tryz.func242, Tryz.ntmps242
      go_wp2_with fail
      exact bodyPost_ret (v := .agg #[.bool false, .slice A 0 c]) (by simp [results, Tryz.results242, go_sem]) rfl (retJ HS.out (HD.out _) (below_alloc w _))
    · have HS : Hid (true = decide (sgn true x < 0)) := by
        show true = _
        have : x ≠ 0 := fun e => h0 (hz.1 e)
        simp [sgn]; omega
      have h1 : 0 < n := by omega
      clear hz h h0
      go_enter Tryz.func242, Tryz.ntmps242
      go_wp2_with fail
      exact bodyPost_ret (v := .agg #[.bool true, .slice A n c]) (by simp [results, Tryz.results242, go_sem]) rfl (retJ HS.out (HD.out _) (below_alloc w _))

set_option maxRecDepth 100000 in
theorem neg_any (b : Bool) (A : Option Addr) (n c x : Nat) (w : World) (h : D w (.slice A n c) x) (hn : n ≤ 1000000) :
    Calls Tryz.prog 264 #[.agg #[.bool b, .slice A n c]] w (RetJ (sgn (!b) x) w) := by
  have HS : Hid (∀ wx, Below w.heap.size w wx → Calls Tryz.prog 242 #[.bool (!b), .slice A n c] wx (RetJ (sgn (!b) x) wx)) := fun wx hx => signed_any (!b) A n c x wx (h.keep hx) hn
  clear h
  go_enter Tryz.func264, Tryz.ntmps264
  go_wp2_with fail
  (with_reducible refine (HS.out _ ?_).mono ?_)
  · exact ((Below.refl _ _).alloc (Nat.le_refl _) _).alloc (by simp) _
  rintro e w1 ⟨A1, n1, c1, rfl, hD, hB⟩
  obtain ⟨hc, hf⟩ := bcell hB
  go_wp2_with fail
  exact bodyPost_ret (v := .agg #[.bool (decide (sgn (!b) x < 0)), .slice A1 n1 c1]) (by simp [results, Tryz.results264, go_sem, hc]) rfl
    (retJ_box rfl hD ((Bx.new' (w.alloc _) _ 183 (by simp)).keep hB) ((((Below.refl _ _).alloc (Nat.le_refl _) _).alloc (by simp) _).trans (hB.mono (by simp; omega))) (by omega))

theorem box3 (w : World) (o1 o2 : Obj) (cs : Array Value) (T : Nat) : Bx (((w.alloc o1).alloc o2).alloc (.cells cs T)) (w.heap.size + 1 + 1) T ∧ Below w.heap.size w (((w.alloc o1).alloc o2).alloc (.cells cs T)) :=
  ⟨Bx.new' _ _ T (by simp), (((Below.refl _ _).alloc (Nat.le_refl _) _).alloc (by simp) _).alloc (by simp; omega) _⟩

theorem below_undrew {B : Nat} {X w : World} (h : Below B X.drew w) : Below B X w := ⟨h.os, h.tape, h.output, h.size, h.block⟩
theorem below_undrew' {X w : World} (h : Below X.drew.heap.size X.drew w) : Below X.heap.size X w := ⟨h.os, h.tape, h.output, h.size, h.block⟩

theorem szs {X w1 : World} {k : Nat} (hB : Below X.heap.size X w1) (hX : k + 2 < X.heap.size) : k < w1.heap.size ∧ k + 1 < w1.heap.size ∧ k + 2 < w1.heap.size := by
  have := hB.size
  omega

/-- Two boxes of two cells each hold these values. -/
def Fr (g : Nat) (p q r s : Value) (w' : World) : Prop := w'.cell? ⟨g, 0, none⟩ = some p ∧ w'.cell? ⟨g, 1, none⟩ = some q ∧ w'.cell? ⟨g + 1, 0, none⟩ = some r ∧ w'.cell? ⟨g + 1, 1, none⟩ = some s
theorem Fr.keep {g : Nat} {p q r s : Value} {X w1 : World} (h : Fr g p q r s X) (hz : g + 1 < X.heap.size) (hB : Below X.heap.size X w1) : Fr g p q r s w1 := by
  obtain ⟨h1, h2, h3, h4⟩ := h
  exact ⟨(hB.cell (p := ⟨g, 0, none⟩) (by show g < _; omega)).trans h1, (hB.cell (p := ⟨g, 1, none⟩) (by show g < _; omega)).trans h2, (hB.cell (p := ⟨g + 1, 0, none⟩) hz).trans h3, (hB.cell (p := ⟨g + 1, 1, none⟩) hz).trans h4⟩
theorem Fr.set {g : Nat} {p q r s : Value} {X : World} (h : Fr g p q r s X) {k : Nat} (hk : g + 1 < k) (o : Nat) (u : Value) : Fr g p q r s (X.setCell ⟨k, o, none⟩ u) := by
  obtain ⟨h1, h2, h3, h4⟩ := h
  have key : ∀ (b i : Nat), b ≠ k → (X.setCell ⟨k, o, none⟩ u).cell? ⟨b, i, none⟩ = X.cell? ⟨b, i, none⟩ := fun b i hb => World.cell?_setCell_other X ⟨k, o, none⟩ ⟨b, i, none⟩ u (fun e => hb (by have h := congrArg Addr.block e; first | exact h | exact h.symm))
  exact ⟨(key _ _ (by omega)).trans h1, (key _ _ (by omega)).trans h2, (key _ _ (by omega)).trans h3, (key _ _ (by omega)).trans h4⟩
theorem Fr.set2 {g : Nat} {p q r s : Value} {X : World} (h : Fr g p q r s X) {k : Nat} (hk : g + 1 < k) (u v : Value) : Fr g p q r s ((X.setCell ⟨k, 0, none⟩ u).setCell ⟨k, 1, none⟩ v) := (h.set hk _ _).set hk _ _
theorem Fr.drew {g : Nat} {p q r s : Value} {X : World} (h : Fr g p q r s X) : Fr g p q r s X.drew := h
theorem Fr.out {g : Nat} {p q r s : Value} {w' : World} (h : Fr g p q r s w') : w'.cell? ⟨g, 0, none⟩ = some p ∧ w'.cell? ⟨g, 1, none⟩ = some q ∧ w'.cell? ⟨g + 1, 0, none⟩ = some r ∧ w'.cell? ⟨g + 1, 1, none⟩ = some s := h

/-- A box of two cells that may be written. -/
def Wr (g T : Nat) (w' : World) : Prop := (∃ p q, w'.cell? ⟨g, 0, none⟩ = some p ∧ w'.cell? ⟨g, 1, none⟩ = some q) ∧ w'.frozen? ⟨g, 0, none⟩ = false ∧ w'.frozen? ⟨g, 1, none⟩ = false ∧ Bx w' g T
theorem Wr.keep {g T : Nat} {X w1 : World} (h : Wr g T X) (hB : Below X.heap.size X w1) : Wr g T w1 := by
  obtain ⟨⟨p, q, h1, h2⟩, h3, h4, h5⟩ := h
  obtain ⟨cs, fr, hc⟩ := h5
  have hz := lt_of_heap hc
  exact ⟨⟨p, q, (hB.cell (p := ⟨g, 0, none⟩) hz).trans h1, (hB.cell (p := ⟨g, 1, none⟩) hz).trans h2⟩, (hB.frozen (p := ⟨g, 0, none⟩) hz).trans h3, (hB.frozen (p := ⟨g, 1, none⟩) hz).trans h4, Bx.keep ⟨cs, fr, hc⟩ hB⟩
theorem Wr.new (w : World) (p q : Value) (T : Nat) {g : Nat} (hg : g = w.heap.size) : Wr g T (w.alloc (.cells #[p, q] T)) := by
  subst hg
  refine ⟨⟨p, q, ?_, ?_⟩, ?_, ?_, Bx.new w _ T⟩ <;> simp [go_sem]
theorem Wr.drew {g T : Nat} {X : World} (h : Wr g T X) : Wr g T X.drew := h

/-- Two boxes for the arguments, one for the result. -/
theorem frame3 (w : World) (p q r s t u : Value) : Below w.heap.size w (((w.alloc (.cells #[p, q] 183)).alloc (.cells #[r, s] 183)).alloc (.cells #[t, u] 183)) ∧ w.heap.size + 3 = (((w.alloc (.cells #[p, q] 183)).alloc (.cells #[r, s] 183)).alloc (.cells #[t, u] 183)).heap.size ∧
    Wr (w.heap.size + 1 + 1) 183 (((w.alloc (.cells #[p, q] 183)).alloc (.cells #[r, s] 183)).alloc (.cells #[t, u] 183)) ∧ Fr w.heap.size p q r s (((w.alloc (.cells #[p, q] 183)).alloc (.cells #[r, s] 183)).alloc (.cells #[t, u] 183)) :=
  ⟨(((Below.refl _ _).alloc (Nat.le_refl _) _).alloc (by simp) _).alloc (by simp; omega) _, by simp, Wr.new _ _ _ 183 (by simp), by simp [Fr, go_sem]⟩

theorem sgn_mul (b1 b2 : Bool) (x y : Nat) : sgn b1 x * sgn b2 y = sgn (!b1 == b2) (x * y) := by
  cases b1 <;> cases b2 <;> simp [sgn, Int.neg_mul, Int.mul_neg]

theorem D.pow {w : World} {A : Option Addr} {n c x : Nat} (h : D w (.slice A n c) x) : x < W ^ n := by
  obtain ⟨f, h1, h2, h3, h4, h5⟩ := h.open_
  rw [← h4]; exact V_lt h2

theorem mul_lt_pow {x y n m : Nat} (hx : x < W ^ n) (hy : y < W ^ m) : x * y < W ^ (n + m) := by
  rw [Nat.pow_add]
  rcases Nat.eq_zero_or_pos y with h | h
  · subst h; rw [Nat.mul_zero]; exact Nat.mul_pos (pow_pos' n) (pow_pos' m)
  · exact Nat.lt_of_lt_of_le (Nat.mul_lt_mul_of_pos_right hx h) (Nat.mul_le_mul_left _ (Nat.le_of_lt hy))

set_option maxRecDepth 100000 in
set_option maxHeartbeats 2000000 in
theorem mulI_any (b1 b2 : Bool) (A B : Option Addr) (n m c d x y : Nat) (w : World) (h1 : D w (.slice A n c) x) (h2 : D w (.slice B m d) y) (hn : n ≤ 400000) (hm : m ≤ 400000) :
    Calls Tryz.prog 215 #[.agg #[.bool b1, .slice A n c], .agg #[.bool b2, .slice B m d]] w (RetJ (sgn b1 x * sgn b2 y) w) := by
  obtain ⟨f, f1, f2, f3, f4, f5⟩ := h1.open_
  obtain ⟨g, g1, g2, g3, g4, g5⟩ := h2.open_
  have HM : Hid (∀ wx, Below w.heap.size w wx → Calls Tryz.prog 243 #[.slice A n c, .slice B m d] wx (RetD (x * y) wx)) := fun wx hx => by
    rw [← f4, ← g4]; exact mul_any A B n m c d f g wx (by omega) (by omega) (f5.keep hx) (g5.keep hx) f2 g2
  have HXY := Lib.hid (mul_lt_pow h1.pow h2.pow)
  rw [sgn_mul]
  clear f1 f2 f3 f4 f5 g1 g2 g3 g4 g5 h1 h2
  go_enter Tryz.func215, Tryz.ntmps215
  go_wp2_with fail
  go_region_held3 (fun w' => w'.cell? ⟨w.heap.size, 0, none⟩ = some (.bool b1) ∧ w'.cell? ⟨w.heap.size, 1, none⟩ = some (.slice A n c) ∧ w'.cell? ⟨w.heap.size + 1, 0, none⟩ = some (.bool b2) ∧ w'.cell? ⟨w.heap.size + 1, 1, none⟩ = some (.slice B m d)) (simp [go_sem, World.cell?_alloc_past, *])
    (first
      | (go_at_call 243; (with_reducible refine (HM.out _ (by repeat (first | exact Below.refl _ _ | refine Below.drew ?_ | refine Below.alloc ?_ (by simp <;> omega) _))).mono ?_); rintro e w1 ⟨v, rfl, hD, hB⟩; obtain ⟨A1, n1, c1, rfl⟩ := hD.shape; obtain ⟨hc, hf⟩ := bcell hB; have hn1 := hD.len HXY.out; obtain ⟨z0, z1, z2⟩ := szs (k := w.heap.size) hB (by simp))
      | (go_at_call 242; (with_reducible refine (signed_any _ _ _ _ _ _ (by assumption) (by omega)).mono ?_); rintro e w2 ⟨A2, n2, c2, rfl, hD2, hB2⟩; obtain ⟨hc2, hf2⟩ := bcell hB2; obtain ⟨y0, y1, y2⟩ := szs (k := w.heap.size) hB2 (by (try simp); omega)))
  all_goals go_wp2_with fail
  obtain ⟨bx, bb⟩ := box3 w (.cells #[.bool b1, .slice A n c] 183) (.cells #[.bool b2, .slice B m d] 183) #[.bool false, .slice none 0 0] 183
  have hB := below_undrew' hB
  have b1w : Below w.heap.size w w1 := bb.trans (hB.mono bb.size)
  exact bodyPost_ret (v := .agg #[.bool (decide (sgn (!b1 == b2) (x * y) < 0)), .slice A2 n2 c2]) (by simp [results, Tryz.results215, go_sem, *]) rfl
    (retJ_box rfl hD2 ((bx.keep hB).keep hB2) (b1w.trans (hB2.mono b1w.size)) (by omega))

end Go.Proofs.YtabaknkjcoibpaaGreatDoor

namespace Go.Proofs.YtabaknkjcoibpaaGreatDoor
open Go.RowKit

/-- The slice at A holds the digits l; its memory is of ints. -/
def Lc (w : World) (A : Option Addr) (l : List Nat) : Prop :=
  0 < l.length → ∃ b off, A = some ⟨b, off, none⟩ ∧ Bx w b 3 ∧ ∀ i, i < l.length → w.cell? ⟨b, off + i, none⟩ = some (.int .i64 ((l.getD i 0 : Nat) : Int))
theorem Bx.lt {w : World} {b T : Nat} (h : Bx w b T) : b < w.heap.size := by
  obtain ⟨cs, fr, hc⟩ := h
  exact lt_of_heap hc
theorem Lc.keep {w w' : World} {A : Option Addr} {l : List Nat} (h : Lc w A l) (hb : Below w.heap.size w w') : Lc w' A l := by
  intro hn
  obtain ⟨b, off, hA, hx, hc⟩ := h hn
  exact ⟨b, off, hA, hx.keep hb, fun i hi => (hb.cell (p := ⟨b, off + i, none⟩) hx.lt).trans (hc i hi)⟩
theorem Lc.drew {w : World} {A : Option Addr} {l : List Nat} (h : Lc w A l) : Lc w.drew A l := h
theorem Lc.nil (w : World) (A : Option Addr) : Lc w A [] := fun h => by simp at h
theorem Lc.take {w : World} {A : Option Addr} {l : List Nat} (h : Lc w A l) (k : Nat) : Lc w A (l.take k) := by
  intro hn
  rw [List.length_take] at hn
  obtain ⟨b, off, hA, hx, hc⟩ := h (by omega)
  refine ⟨b, off, hA, hx, fun i hi => ?_⟩
  rw [List.length_take] at hi
  rw [getD_take (by omega)]
  exact hc i (by omega)
/-- A store into memory of another type leaves the digits alone. -/
theorem Lc.set {w : World} {A : Option Addr} {l : List Nat} (h : Lc w A l) {k T : Nat} (hb : Bx w k T) (hT : T ≠ 3) (o : Nat) (u : Value) : Lc (w.setCell ⟨k, o, none⟩ u) A l := by
  intro hn
  obtain ⟨b, off, hA, hx, hc⟩ := h hn
  have hne : b ≠ k := by
    rintro rfl
    obtain ⟨cs, fr, h1⟩ := hx
    obtain ⟨cs', fr', h2⟩ := hb
    rw [h1] at h2
    injection h2 with h2
    injection h2 with _ h2
    exact hT h2.symm
  have e : (w.setCell ⟨k, o, none⟩ u).heap[b]? = w.heap[b]? := Below.heap_setCell _ _ _ _ hne
  exact ⟨b, off, hA, hx.set _ _ _, fun i hi => (World.cell?_of_block (w := w) (a := ⟨b, off + i, none⟩) e).trans (hc i hi)⟩

/-- The slice value v holds the digits l. -/
def Ls (w : World) (v : Value) (l : List Nat) : Prop := ∃ A c, v = .slice A l.length c ∧ (l.length ≤ c ∧ c ≤ 9223372036854775807) ∧ Dl l ∧ Lc w A l
theorem Ls.keep {w w' : World} {v : Value} {l : List Nat} (h : Ls w v l) (hb : Below w.heap.size w w') : Ls w' v l := by
  obtain ⟨A, c, h1, h2, h3, h4⟩ := h
  exact ⟨A, c, h1, h2, h3, h4.keep hb⟩
theorem Ls.set {w : World} {v : Value} {l : List Nat} (h : Ls w v l) {k T : Nat} (hb : Bx w k T) (hT : T ≠ 3) (o : Nat) (u : Value) : Ls (w.setCell ⟨k, o, none⟩ u) v l := by
  obtain ⟨A, c, h1, h2, h3, h4⟩ := h
  exact ⟨A, c, h1, h2, h3, h4.set hb hT o u⟩

/-- What a function returns that makes a list: one of which P holds. -/
def RetL (P : List Nat → Prop) (w : World) (e : Ending) (w' : World) : Prop := ∃ v l, e = .returned v ∧ Ls w' v l ∧ P l ∧ Below w.heap.size w w'

/-- A list that grows by append, in memory from block B on. -/
def Own (w : World) (B : Nat) (v : Value) (l : List Nat) : Prop := w.ownsRow B 3 1 v l.length (l.map fun (d : Nat) => .int .i64 (d : Int))
theorem Own.nil (w : World) (B : Nat) : Own w B (.slice none 0 0) [] := World.ownsRow_nil w B 3 1
theorem Own.alloc {w : World} {B : Nat} {v : Value} {l : List Nat} (h : Own w B v l) (o : Obj) : Own (w.alloc o) B v l := World.ownsRow.alloc h o
theorem Own.ls {w : World} {B : Nat} {v : Value} {l : List Nat} (h : Own w B v l) (hd : Dl l) : Ls w v l := by
  have h0 := h
  rcases h.2 with ⟨rfl, hn⟩ | ⟨g, cap, cur, rfl, _, hg, hcap, hcm, _⟩
  · have : l = [] := List.eq_nil_of_length_eq_zero hn
    subst this
    exact ⟨none, 0, rfl, ⟨Nat.le_refl _, Nat.zero_le _⟩, hd, Lc.nil w _⟩
  · refine ⟨some ⟨g, 0, none⟩, cap, rfl, ⟨hcap, by unfold maxLen at hcm; omega⟩, hd, fun hn => ⟨g, 0, rfl, ⟨cur, (0, 0), hg⟩, fun i hi => ?_⟩⟩
    have hc := World.ownsRow.cells h0 (g := g) rfl i (.int .i64 ((l.getD i 0 : Nat) : Int)) (by
      simp [List.getElem?_map, List.getD_eq_getElem?_getD, List.getElem?_eq_getElem hi])
    have hadd : (⟨g, 0, none⟩ : Addr).add i = ⟨g, 0 + i, none⟩ := by unfold Addr.add; split <;> simp_all
    rw [hadd] at hc
    exact hc

theorem cell_new (w : World) (u : Value) (T : Nat) : (w.alloc (.cells #[u] T)).cell? ⟨w.heap.size, 0, none⟩ = some u := by simp [go_sem]
theorem int_eq {k : IntKind} {a b : Int} (h : a = b) : Value.int k a = .int k b := by rw [h]

theorem info3 : (Tryz.prog.info? 3).map (fun i => (i.zero, i.size, i.bytes)) = some (some (.int .i64 0), 1, 8) := by kernel_rfl

set_option maxRecDepth 100000 in
/-- out = append(out, x). -/
theorem wpList_push {ops : Array Oper} {rest : List Oper} {o : Oper} {a : Act} {w : World} {Q : Exit → Act → World → Prop} (hgd : o.guard = none) (s x : Operand)
    (ho : o.op = .call { callee := .builtin .append, args := #[s, x], argTypes := #[25, 25] })
    (B : Nat) (v : Value) (l : List Nat) (hs : a.eval s = v) (hown : Own w B v l) (g : Nat) (hx : a.eval x = .slice (some ⟨g, 0, none⟩) 1 1) (X : Int) (hc : w.cell? ⟨g, 0, none⟩ = some (.int .i64 X)) (d : Nat) (hX : X = (d : Int))
    (hl : l.length ≤ 1000000) (hB : B ≤ w.heap.size)
    (h : ∀ v' w', Own w' B v' (l ++ [d]) → (∀ X0 : World, Below B X0 w → Below B X0 w') → wpList Tryz.prog ops Q rest (a.put o.dst v') w') : wpList Tryz.prog ops Q (o :: rest) a w := by
  obtain ⟨i0, hi, hz0, hz1, hz2⟩ := info_parts info3
  refine wpList_append_own w hgd s x 25 ho B 3 i0 (.int .i64 0) 1 8 Tryz.underlying25 hi hz0 hz1 hz2 rfl (by decide) v l.length _ hs hown ⟨g, 0, none⟩ 1 1 [.int .i64 (d : Int)] hx rfl ?_ ?_ ?_ ?_ hB ?_
  · intro j u hj
    match j, hj with
    | 0, hj =>
      simp at hj
      subst hj
      rw [← hX]
      simpa [Addr.add] using hc
  · intro u hu
    simp at hu
    subst hu
    rfl
  · unfold maxLen; omega
  · omega
  · intro v' w' h1 h2 _
    refine h v' w' ?_ (fun X0 hX0 => Below.grown hX0 h2 hB (fun k hk => (World.ownsRow.lt hown k hk).1))
    unfold Own
    rw [List.length_append, List.map_append]
    exact h1

end Go.Proofs.YtabaknkjcoibpaaGreatDoor

namespace Go.Proofs.YtabaknkjcoibpaaGreatDoor
open Go.RowKit

theorem Drn.lc {w w' : World} (h : Drn w w') {A : Option Addr} {l : List Nat} (hd : Lc w A l) : Lc w' A l := by obtain ⟨q, rfl⟩ := h; exact hd
theorem Drn.ls {w w' : World} (h : Drn w w') {v : Value} {l : List Nat} (hd : Ls w v l) : Ls w' v l := by obtain ⟨q, rfl⟩ := h; exact hd

theorem rtrim_any (A : Option Addr) (c : Nat) (l : List Nat) (w : World) (hn : l.length ≤ c) (hc : c ≤ 9223372036854775807) (hA : Lc w A l) :
    Calls Tryz.prog 224 #[.slice A l.length c] w fun e w' => ∃ k, e = .returned (.slice A k c) ∧ k ≤ l.length ∧ Nz (l.take k) ∧ val (l.take k) = val l ∧ w = w' := by
  obtain ⟨n, hln⟩ : ∃ n, l.length = n := ⟨_, rfl⟩
  have HL := Lib.hid hln
  rw [hln] at hn ⊢
  clear hln
  go_enter Tryz.func224, Tryz.ntmps224
  go_wp2
  go_loop [0] (fun s => ∃ k : Nat, k ≤ n ∧ s = .slice A k c ∧ Hid (val (l.take k) = val l)) (fun s => slen s)
  case atStart => exact ⟨n, Nat.le_refl _, rfl, by rw [← HL.out]; exact val_take_all (Nat.le_refl _)⟩
  case round =>
    obtain ⟨k, hk, rfl, hv⟩ := hrel
    rcases Nat.eq_zero_or_pos k with h0 | h0
    · subst h0
      go_wp2
      go_ret
      exact ⟨0, rfl, hk, Or.inl rfl, hv.out, rfl⟩
    · obtain ⟨b, off, hA', hb, hcell⟩ := hA (by rw [HL.out]; omega)
      subst hA'
      have hcell1 := hcell (k - 1) (by rw [HL.out]; omega)
      clear hcell
      obtain ⟨x, hx⟩ : ∃ x, l.getD (k - 1) 0 = x := ⟨_, rfl⟩
      rw [hx] at hcell1
      have HX := Lib.hid hx
      clear hx
      by_cases hz : x = 0
      · have hv2 : Hid (val (l.take (k - 1)) = val l) := by
          have := hv.out
          obtain ⟨m, rfl⟩ : ∃ m, k = m + 1 := ⟨k - 1, by omega⟩
          rw [val_take_succ] at this
          have h2 := HX.out
          simp only [Nat.add_sub_cancel] at h2 ⊢
          rw [h2, hz] at this
          show val (l.take m) = val l
          simpa using this
        subst hz
        go_wp2
        exact ⟨⟨k - 1, by omega, rfl, hv2⟩, by simp [slen]; omega⟩
      · have hz2 : ((x : Int) == 0) = false := by simpa using hz
        have HZ := Lib.hid hz
        clear hz
        go_wp2
        go_ret
        refine ⟨k, rfl, hk, Or.inr ?_, hv.out, rfl⟩
        rw [List.length_take, Nat.min_eq_left (by rw [HL.out]; exact hk), getD_take (by omega), HX.out]
        exact HZ.out

set_option maxRecDepth 100000 in
set_option maxHeartbeats 1000000 in
theorem rcmp_same (A B : Option Addr) (n ca cb : Nat) (la lb : List Nat) (w : World) (hn : n ≤ 1000000) (hla : la.length = n) (hlb : lb.length = n) (hA : Lc w A la) (hB : Lc w B lb) (ha : Dl la) (hb : Dl lb) :
    Calls Tryz.prog 156 #[.slice A n ca, .slice B n cb] w fun e w' => e = .returned (.int .i64 (cmpN (val la) (val lb))) ∧ Drn w w' := by
  have HLA := Lib.hid hla
  have HLB := Lib.hid hlb
  have HDA := Lib.hid ha
  have HDB := Lib.hid hb
  clear hla hlb ha hb
  go_enter Tryz.func156, Tryz.ntmps156
  go_wp2_with fail
  go_loopw [5] (fun i wr => ∃ k : Nat, k ≤ n ∧ i = .int .i64 ((k : Int) - 1) ∧ Hid (la.drop k = lb.drop k) ∧ Drn w wr) (fun i _ => (intOf i + 1).toNat)
  case atStart => exact ⟨n, Nat.le_refl _, rfl, by show la.drop n = lb.drop n; rw [List.drop_of_length_le (by rw [HLA.out]; omega), List.drop_of_length_le (by rw [HLB.out]; omega)], Drn.refl w⟩
  case round =>
    obtain ⟨k, hk, rfl, hs, hq⟩ := hrel
    rcases Nat.eq_zero_or_pos k with h0 | h0
    · subst h0
      have HE : Hid (cmpN (val la) (val lb) = 0) := by
        have : la = lb := hs.out
        rw [this]; exact cmpN_eq _
      rw [show (((0 : Nat) : Int) - 1) = -1 from rfl]
      go_wp2_with fail
      go_ret
      exact ⟨by rw [HE.out]; rfl, hq⟩
    · obtain ⟨b, off, rfl, hb, hcells⟩ := hA (by rw [HLA.out]; omega)
      obtain ⟨b', off', rfl, hb', hcells'⟩ := hB (by rw [HLB.out]; omega)
      obtain ⟨j, rfl⟩ : ∃ j, k = j + 1 := ⟨k - 1, by omega⟩
      have hc1 := (hq.cell ⟨b, off + j, none⟩).trans (hcells j (by rw [HLA.out]; omega))
      have hc2 := (hq.cell ⟨b', off' + j, none⟩).trans (hcells' j (by rw [HLB.out]; omega))
      have hjn : (j : Int) < (n : Int) := by omega
      clear hcells hcells'
      have ej : (((j + 1 : Nat) : Int) - 1) = (j : Int) := by omega
      rw [ej]
      clear ej h0
      obtain ⟨x, hx⟩ : ∃ x, la.getD j 0 = x := ⟨_, rfl⟩
      obtain ⟨y, hy⟩ : ∃ y, lb.getD j 0 = y := ⟨_, rfl⟩
      rw [hx] at hc1
      rw [hy] at hc2
      have HX := Lib.hid hx
      have HY := Lib.hid hy
      clear hx hy
      rcases Nat.lt_trichotomy x y with h | h | h
      · have HE : Hid (cmpN (val la) (val lb) = -1) := cmpN_lt (lt_of_top HDA.out (by rw [HLA.out, HLB.out]) (by rw [HLA.out]; omega) hs.out (by rw [HX.out, HY.out]; exact h))
        have hd : decide ((x : Int) < (y : Int)) = true := decide_eq_true (by omega)
        go_wp2_with fail
        go_quiet (fail)
        go_wp2_with fail
        go_ret
        exact ⟨by rw [HE.out]; rfl, hq.more _⟩
      · subst h
        have hs2 : Hid (la.drop j = lb.drop j) := drop_step (by rw [HLA.out]; omega) (by rw [HLA.out, HLB.out]) hs.out (by rw [HX.out, HY.out])
        go_wp2_with fail
        go_quiet (fail)
        go_wp2_with fail
        go_quiet (fail)
        go_wp2_with fail
        exact ⟨⟨j, by omega, rfl, hs2, (by first | exact hq.more _ | exact (hq.more _).more _)⟩, by simp [intOf]⟩
      · have HE : Hid (cmpN (val la) (val lb) = 1) := cmpN_gt (lt_of_top (a := lb) (b := la) HDB.out (by rw [HLA.out, HLB.out]) (by rw [HLB.out]; omega) hs.out.symm (by rw [HX.out, HY.out]; exact h))
        have hd : ¬ (x : Int) < (y : Int) := by omega
        go_wp2_with fail
        go_quiet (fail)
        go_wp2_with fail
        go_quiet (fail)
        go_wp2_with fail
        go_ret
        exact ⟨by rw [HE.out]; rfl, (by first | exact hq.more _ | exact (hq.more _).more _)⟩

set_option maxRecDepth 100000 in
theorem rcmp_any (A B : Option Addr) (n m ca cb : Nat) (la lb : List Nat) (w : World) (hn : n ≤ 1000000) (hla : la.length = n) (hlb : lb.length = m) (hA : Lc w A la) (hB : Lc w B lb) (ha : Dl la) (hb : Dl lb) (hna : Nz la) (hnb : Nz lb) :
    Calls Tryz.prog 156 #[.slice A n ca, .slice B m cb] w fun e w' => e = .returned (.int .i64 (cmpN (val la) (val lb))) ∧ Drn w w' := by
  rcases Nat.lt_trichotomy n m with h | h | h
  · have HE : Hid (cmpN (val la) (val lb) = -1) := cmpN_lt (lt_of_len ha hnb (by omega))
    have h2 : ((n : Int) != (m : Int)) = true := by rw [bne_iff_ne]; omega
    rw [HE.out]
    clear HE ha hb hna hnb hA hB hla hlb
    go_enter Tryz.func156, Tryz.ntmps156
    go_wp2_with fail
    go_ret
    exact ⟨rfl, Drn.refl w⟩
  · subst h
    exact rcmp_same A B n ca cb la lb w hn hla hlb hA hB ha hb
  · have HE : Hid (cmpN (val la) (val lb) = 1) := cmpN_gt (lt_of_len hb hna (by omega))
    have h2 : ((n : Int) != (m : Int)) = true := by rw [bne_iff_ne]; omega
    rw [HE.out]
    clear HE ha hb hna hnb hA hB hla hlb
    go_enter Tryz.func156, Tryz.ntmps156
    go_wp2_with fail
    go_ret
    exact ⟨rfl, Drn.refl w⟩

end Go.Proofs.YtabaknkjcoibpaaGreatDoor
