/- A box that holds a fraction of the reference. Dot of the reference, for lists of at most 200 numbers. -/
import Derived.Test.YtabaknkjcoibpaaGreatDoorM30
import Derived.Test.YtabaknkjcoibpaaGreatDoorM33
import Derived.Test.YtabaknkjcoibpaaGreatDoorM36
import Derived.Test.YtabaknkjcoibpaaGreatDoorM37

namespace Go.Proofs.YtabaknkjcoibpaaGreatDoor
open Go.RowKit

/-- A box that holds a fraction. -/
def BR (w : World) (g : Nat) (x : Rat) : Prop := ∃ s neg A n c s' neg' A' n' c', B6 g (.int .i64 s) (.bool neg) (.slice A n c) (.int .i64 s') (.bool neg') (.slice A' n' c') w ∧ RI w s neg A n c x.num ∧ RI w s' neg' A' n' c' (x.den : Int)
theorem BR.keep {w w' : World} {g : Nat} {x : Rat} (h : BR w g x) (hb : Below w.heap.size w w') : BR w' g x := by
  obtain ⟨s, neg, A, n, c, s', neg', A', n', c', h1, h2, h3⟩ := h
  exact ⟨s, neg, A, n, c, s', neg', A', n', c', h1.keep hb, h2.keep hb, h3.keep hb⟩
theorem BR.lt {w : World} {g : Nat} {x : Rat} (h : BR w g x) : g < w.heap.size := by
  obtain ⟨s, neg, A, n, c, s', neg', A', n', c', h1, h2, h3⟩ := h
  exact h1.2.2.2.2.2.2
theorem size_set6 (w : World) (g : Nat) (a b c d e f : Value) : w.heap.size ≤ (set6 w g a b c d e f).heap.size := Nat.le_trans (Nat.le_trans (Nat.le_trans (size_set _ _ _ _) (size_set _ _ _ _)) (size_set _ _ _ _)) (Nat.le_trans (Nat.le_trans (size_set _ _ _ _) (size_set _ _ _ _)) (size_set _ _ _ _))
theorem heap_set6 {g k : Nat} (w : World) (hk : g ≠ k) (a b c d e f : Value) : (set6 w k a b c d e f).heap[g]? = w.heap[g]? :=
  (((((Below.heap_setCell _ _ _ _ hk).trans (Below.heap_setCell _ _ _ _ hk)).trans (Below.heap_setCell _ _ _ _ hk)).trans (Below.heap_setCell _ _ _ _ hk)).trans (Below.heap_setCell _ _ _ _ hk)).trans (Below.heap_setCell _ _ _ _ hk)
theorem B6.set_6 {g k : Nat} {p q r p' q' r' : Value} {w : World} (h : B6 g p q r p' q' r' w) (hk : g ≠ k) (a b c d e f : Value) : B6 g p q r p' q' r' (set6 w k a b c d e f) := by
  obtain ⟨h0, h1, h2, h3, h4, h5, hz⟩ := h
  have e' := heap_set6 w hk a b c d e f
  exact ⟨(World.cell?_of_block (w := w) (a := ⟨g, 0, none⟩) e').trans h0, (World.cell?_of_block (w := w) (a := ⟨g, 1, none⟩) e').trans h1, (World.cell?_of_block (w := w) (a := ⟨g, 2, none⟩) e').trans h2, (World.cell?_of_block (w := w) (a := ⟨g, 3, none⟩) e').trans h3, (World.cell?_of_block (w := w) (a := ⟨g, 4, none⟩) e').trans h4, (World.cell?_of_block (w := w) (a := ⟨g, 5, none⟩) e').trans h5, Nat.lt_of_lt_of_le hz (size_set6 _ _ _ _ _ _ _ _)⟩
theorem W6.set_6 {g k : Nat} {w : World} (h : W6 g w) (hk : g ≠ k) (a b c d e f : Value) : W6 g (set6 w k a b c d e f) := by
  have e' := heap_set6 w hk a b c d e f
  have hx : Bx (set6 w k a b c d e f) g 127 := (((((h.2.2.set _ _ _).set _ _ _).set _ _ _).set _ _ _).set _ _ _).set _ _ _
  exact h.of (fun _ => World.cell?_of_block (w := w) (a := ⟨g, _, none⟩) e') (fun _ => World.frozen?_of_block (w := w) (a := ⟨g, _, none⟩) e') hx
theorem BR.set_6 {w : World} {g k : Nat} {x : Rat} (h : BR w g x) (hk : g ≠ k) (hw : W6 k w) (a b c d e f : Value) : BR (set6 w k a b c d e f) g x := by
  obtain ⟨s, neg, A, n, m, s', neg', A', n', m', h1, h2, h3⟩ := h
  exact ⟨s, neg, A, n, m, s', neg', A', n', m', h1.set_6 hk _ _ _ _ _ _, h2.set_6 hw.2.2 _ _ _ _ _ _, h3.set_6 hw.2.2 _ _ _ _ _ _⟩
theorem BR.put {w : World} {g : Nat} {x : Rat} {s s' : Int} {neg neg' : Bool} {A A' : Option Addr} {n c n' c' : Nat} (hW : W6 g w) (h : RI w s neg A n c x.num) (h' : RI w s' neg' A' n' c' (x.den : Int)) : BR (set6 w g (.int .i64 s) (.bool neg) (.slice A n c) (.int .i64 s') (.bool neg') (.slice A' n' c')) g x :=
  ⟨s, neg, A, n, c, s', neg', A', n', c', hW.put _ _ _ _ _ _, h.set_6 hW.2.2 _ _ _ _ _ _, h'.set_6 hW.2.2 _ _ _ _ _ _⟩

theorem W6.put' {g : Nat} {w : World} (h : W6 g w) (a b c d e f : Value) : W6 g (set6 w g a b c d e f) := by
  have hb := h.put a b c d e f
  obtain ⟨-, ⟨f0, f1, f2, f3, f4, f5⟩, hx⟩ := h
  obtain ⟨b0, b1, b2, b3, b4, b5, -⟩ := hb
  refine ⟨⟨a, b, c, d, e, f, b0, b1, b2, b3, b4, b5⟩, ?_, (((((hx.set _ _ _).set _ _ _).set _ _ _).set _ _ _).set _ _ _).set _ _ _⟩
  refine ⟨?_, ?_, ?_, ?_, ?_, ?_⟩ <;> simp [set6, go_sem, f0, f1, f2, f3, f4, f5]

end Go.Proofs.YtabaknkjcoibpaaGreatDoor

namespace Go.Proofs.YtabaknkjcoibpaaGreatDoor
open Go.RowKit

theorem W_lt_Bs {a b : Nat} (h : 32 * a < 30 * b) : W ^ a < Bs ^ b := by
  rw [show W = 2 ^ 32 from rfl, show Bs = 2 ^ 30 from rfl, ← Nat.pow_mul, ← Nat.pow_mul]
  exact Nat.pow_lt_pow_right (by decide) h

theorem Bd.ref {x : Rat} {k : Nat} (hk : k ≤ 900) (h : Bd x (W ^ k) (W ^ k)) : x.num.natAbs < Bs ^ 1000 ∧ x.den < Bs ^ 1000 :=
  ⟨Nat.lt_of_le_of_lt h.1 (@W_lt_Bs k 1000 (by omega)), Nat.lt_of_le_of_lt h.2 (@W_lt_Bs k 1000 (by omega))⟩

theorem Bd.w {x : Rat} (h : Bd x (2 ^ 120) (2 ^ 120)) : Bd x (W ^ 4) (W ^ 4) := ⟨Nat.le_trans h.1 W4_ge, Nat.le_trans h.2 W4_ge⟩

theorem rv_to' {t l : Int} (h : vld t l = true) (wx : World) : Calls Tryz.prog 98 #[.agg #[.int .i64 t, .int .i64 l]] wx (RetV (.rat (fr t l)) wx) := by
  obtain ⟨x, rfl, rfl, hx⟩ := vld_rat h
  obtain ⟨h1, h2⟩ := vld_le h
  rw [hx]
  exact rv_to x wx h1 h2

theorem fr_bd {t l : Int} (h : vld t l = true) : (fr t l).num.natAbs < Bs ^ 1000 ∧ (fr t l).den < Bs ^ 1000 := by
  obtain ⟨x, rfl, rfl, hx⟩ := vld_rat h
  obtain ⟨h1, h2⟩ := vld_le h
  rw [hx]
  have e : 1152921504606846976 ≤ W ^ 2 := by rw [W_eq]; decide
  exact Bd.ref (k := 2) (by omega) ⟨Nat.le_trans h1 e, Nat.le_trans h2 e⟩

theorem Wr.of_heap {g T : Nat} {w w' : World} (h : Wr g T w) (e : w'.heap[g]? = w.heap[g]?) : Wr g T w' := by
  obtain ⟨⟨p, q, h1, h2⟩, h3, h4, cs, fr, hc⟩ := h
  exact ⟨⟨p, q, (World.cell?_of_block (w := w) (a := ⟨g, 0, none⟩) e).trans h1, (World.cell?_of_block (w := w) (a := ⟨g, 1, none⟩) e).trans h2⟩, (World.frozen?_of_block (w := w) (a := ⟨g, 0, none⟩) e).trans h3, (World.frozen?_of_block (w := w) (a := ⟨g, 1, none⟩) e).trans h4, cs, fr, e.trans hc⟩

/-- Behind a round. -/
def EndD (w : World) (g : Nat) (x : Rat) (wx : World) : Prop := BR wx g x ∧ W6 g wx ∧ Wr w.heap.size 62 wx ∧ Below w.heap.size w wx
theorem dotEnd {w wr wx : World} {g : Nat} {x : Rat} {s s' : Int} {neg neg' : Bool} {A A' : Option Addr} {n c n' c' : Nat} (hg : w.heap.size < g) (hb : Below w.heap.size w wr) (hx : Below wr.heap.size wr wx) (hW : W6 g wx) (hr : Wr w.heap.size 62 wx) (h : RI wx s neg A n c x.num) (h' : RI wx s' neg' A' n' c' (x.den : Int)) :
    EndD w g x (set6 wx g (.int .i64 s) (.bool neg) (.slice A n c) (.int .i64 s') (.bool neg') (.slice A' n' c')) :=
  ⟨BR.put hW h h', hW.put' _ _ _ _ _ _, hr.of_heap (heap_set6 wx (by omega) _ _ _ _ _ _), set6_below (hb.trans (hx.mono hb.size)) (by omega) _ _ _ _ _ _⟩

/-- The state of the loop. -/
def DotL (w : World) (g n : Nat) (f : Nat → Rat) (i : Value) (wr : World) : Prop :=
  ∃ k : Nat, Hid (k ≤ n) ∧ i = .int .i64 (k : Int) ∧ Hid (BR wr g (sumQ f k)) ∧ Hid (W6 g wr) ∧ Hid (Wr w.heap.size 62 wr) ∧ Hid (Below w.heap.size w wr)

end Go.Proofs.YtabaknkjcoibpaaGreatDoor
