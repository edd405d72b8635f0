/- Boxes of numbers in a law's memory, and what num's functions return, as plain integers. -/
import Derived.Test.YtjoanclnaeephaaPowC
namespace Go.Proofs.Ytjoanclnaeephaa
open Go.RowKit

/-- Block g is a box of the number a / b. -/
def N2 (w : World) (g : Nat) (a b : Int) : Prop := w.cell? ⟨g, 0, none⟩ = some (.int .i64 a) ∧ w.cell? ⟨g, 1, none⟩ = some (.int .i64 b) ∧ w.frozen? ⟨g, 0, none⟩ = false ∧ w.frozen? ⟨g, 1, none⟩ = false ∧ Bx w g 23
theorem N2.lt {w : World} {g : Nat} {a b : Int} (h : N2 w g a b) : g < w.heap.size := by
  obtain ⟨_, _, _, _, cs, fr, hc⟩ := h
  exact lt_of_heap hc
theorem N2.keep {w w' : World} {g : Nat} {a b : Int} (h : N2 w g a b) (hb : Below w.heap.size w w') : N2 w' g a b :=
  ⟨(hb.cell (p := ⟨g, 0, none⟩) h.lt).trans h.1, (hb.cell (p := ⟨g, 1, none⟩) h.lt).trans h.2.1, (hb.frozen (p := ⟨g, 0, none⟩) h.lt).trans h.2.2.1, (hb.frozen (p := ⟨g, 1, none⟩) h.lt).trans h.2.2.2.1, h.2.2.2.2.keep hb⟩
theorem N2.new (w : World) (a b : Int) : N2 (w.alloc (.cells #[.int .i64 a, .int .i64 b] 23)) w.heap.size a b :=
  ⟨by simp [go_sem], by simp [go_sem], by simp [go_sem], by simp [go_sem], Bx.new w _ 23⟩
theorem N2.far {w : World} {g k : Nat} {a b : Int} (h : N2 w g a b) (hk : g ≠ k) (o : Nat) (u : Value) : N2 (w.setCell ⟨k, o, none⟩ u) g a b := by
  obtain ⟨h1, h2, f1, f2, hx⟩ := h
  have e : (w.setCell ⟨k, o, none⟩ u).heap[g]? = w.heap[g]? := Below.heap_setCell _ _ _ _ hk
  exact ⟨(World.cell?_of_block (w := w) (a := ⟨g, 0, none⟩) e).trans h1, (World.cell?_of_block (w := w) (a := ⟨g, 1, none⟩) e).trans h2,
    (World.frozen?_of_block (w := w) (a := ⟨g, 0, none⟩) e).trans f1, (World.frozen?_of_block (w := w) (a := ⟨g, 1, none⟩) e).trans f2, hx.set _ _ _⟩
/-- The store of two cells. -/
def set2 (w : World) (g : Nat) (x y : Int) : World := (w.setCell ⟨g, 0, none⟩ (.int .i64 x)).setCell ⟨g, 1, none⟩ (.int .i64 y)
theorem N2.set {w : World} {g : Nat} {a b : Int} (h : N2 w g a b) (x y : Int) : N2 (set2 w g x y) g x y := by
  obtain ⟨h1, h2, f1, f2, hx⟩ := h
  exact ⟨by simp [set2, go_sem, h1], by simp [set2, go_sem, h2], by simp [set2, go_sem, f1], by simp [set2, go_sem, f2], (hx.set _ _ _).set _ _ _⟩

/-- These blocks are boxes of these numbers, and no two are one. -/
def Bxs (w : World) (L : List (Nat × Int × Int)) : Prop := (∀ (k : Nat) (q : Nat × Int × Int), L[k]? = some q → N2 w q.1 q.2.1 q.2.2) ∧ ∀ (j k : Nat) (q r : Nat × Int × Int), L[j]? = some q → L[k]? = some r → q.1 = r.1 → j = k
theorem Bxs.nil (w : World) : Bxs w [] := ⟨fun k q h => by simp at h, fun j k q r h => by simp at h⟩
theorem Bxs.keep {w w' : World} {L : List (Nat × Int × Int)} (h : Bxs w L) (hb : Below w.heap.size w w') : Bxs w' L := ⟨fun k q hq => (h.1 k q hq).keep hb, h.2⟩
theorem Bxs.new {w : World} {L : List (Nat × Int × Int)} (h : Bxs w L) (a b : Int) : Bxs (w.alloc (.cells #[.int .i64 a, .int .i64 b] 23)) (L ++ [(w.heap.size, a, b)]) := by
  have hk := h.keep (below_alloc w (.cells #[.int .i64 a, .int .i64 b] 23))
  have key : ∀ (k : Nat) (q : Nat × Int × Int), (L ++ [(w.heap.size, a, b)])[k]? = some q → (L[k]? = some q ∧ k < L.length) ∨ (k = L.length ∧ q = (w.heap.size, a, b)) := by
    intro k q hq
    rcases Nat.lt_or_ge k L.length with hlt | hge
    · rw [List.getElem?_append_left hlt] at hq
      exact Or.inl ⟨hq, hlt⟩
    · rw [List.getElem?_append_right hge] at hq
      rcases Nat.eq_zero_or_pos (k - L.length) with h0 | h0
      · rw [h0] at hq
        simp at hq
        exact Or.inr ⟨by omega, hq.symm⟩
      · obtain ⟨m, hm⟩ : ∃ m, k - L.length = m + 1 := ⟨k - L.length - 1, by omega⟩
        rw [hm] at hq
        simp at hq
  refine ⟨fun k q hq => ?_, fun j k q r hq hr he => ?_⟩
  · rcases key k q hq with ⟨h1, -⟩ | ⟨-, rfl⟩
    · exact hk.1 k q h1
    · exact N2.new w a b
  · rcases key j q hq with ⟨h1, h1'⟩ | ⟨h1, rfl⟩ <;> rcases key k r hr with ⟨h2, h2'⟩ | ⟨h2, rfl⟩
    · exact h.2 j k q r h1 h2 he
    · have := (h.1 j q h1).lt
      rw [he] at this
      exact absurd this (Nat.lt_irrefl _)
    · have := (h.1 k r h2).lt
      rw [← he] at this
      exact absurd this (Nat.lt_irrefl _)
    · omega
theorem size_alloc (w : World) (o : Obj) : (w.alloc o).heap.size = w.heap.size + 1 := by simp
theorem Bxs.two (w : World) (a b c d : Int) : Bxs ((w.alloc (.cells #[.int .i64 a, .int .i64 b] 23)).alloc (.cells #[.int .i64 c, .int .i64 d] 23)) [(w.heap.size, a, b), (w.heap.size + 1, c, d)] := by
  have h := ((Bxs.nil w).new a b).new c d
  simp only [size_alloc, List.nil_append, List.cons_append] at h
  exact h
theorem Bxs.three (w : World) (a b c d e f : Int) : Bxs (((w.alloc (.cells #[.int .i64 a, .int .i64 b] 23)).alloc (.cells #[.int .i64 c, .int .i64 d] 23)).alloc (.cells #[.int .i64 e, .int .i64 f] 23)) [(w.heap.size, a, b), (w.heap.size + 1, c, d), (w.heap.size + 1 + 1, e, f)] := by
  have h := (((Bxs.nil w).new a b).new c d).new e f
  simp only [size_alloc, List.nil_append, List.cons_append] at h
  exact h
theorem Bxs.take {w : World} {L : List (Nat × Int × Int)} (h : Bxs w L) (n : Nat) : Bxs w (L.take n) := by
  have key : ∀ (k : Nat) (q : Nat × Int × Int), (L.take n)[k]? = some q → L[k]? = some q := by
    intro k q hq
    rw [List.getElem?_take] at hq
    split at hq
    · exact hq
    · cases hq
  exact ⟨fun k q hq => h.1 k q (key k q hq), fun j k q r hq hr => h.2 j k q r (key j q hq) (key k r hr)⟩
theorem Bxs.set {w : World} {L : List (Nat × Int × Int)} (h : Bxs w L) (k : Nat) {g : Nat} {a b : Int} (hk : L[k]? = some (g, a, b)) (x y : Int) : Bxs (set2 w g x y) (L.set k (g, x, y)) := by
  have hlt : k < L.length := (List.getElem?_eq_some_iff.1 hk).1
  have key : ∀ (j : Nat) (q : Nat × Int × Int), (L.set k (g, x, y))[j]? = some q → (j ≠ k ∧ L[j]? = some q) ∨ (j = k ∧ q = (g, x, y)) := by
    intro j q hq
    by_cases e : j = k
    · subst e
      rw [List.getElem?_set_self hlt] at hq
      injection hq with hq
      exact Or.inr ⟨rfl, hq.symm⟩
    · rw [List.getElem?_set_ne (Ne.symm e)] at hq
      exact Or.inl ⟨e, hq⟩
  refine ⟨fun j q hq => ?_, fun i j q r hq hr he => ?_⟩
  · rcases key j q hq with ⟨h1, h2⟩ | ⟨-, rfl⟩
    · have hne : q.1 ≠ g := fun e => h1 (h.2 j k q _ h2 hk e)
      exact ((h.1 j q h2).far hne _ _).far hne _ _
    · exact (h.1 k _ hk).set x y
  · rcases key i q hq with ⟨h1, h2⟩ | ⟨h1, rfl⟩ <;> rcases key j r hr with ⟨h3, h4⟩ | ⟨h3, rfl⟩
    · exact h.2 i j q r h2 h4 he
    · exact h.2 i j q (g, a, b) h2 (by rw [h3]; exact hk) he
    · exact h.2 i j (g, a, b) r (by rw [h1]; exact hk) h4 he
    · omega
theorem set2_below {base : Nat} {X w : World} (h : Below base X w) {g : Nat} (hg : base ≤ g) (x y : Int) : Below base X (set2 w g x y) := (h.setCell hg _).setCell hg _

/-- What a function on numbers returns. -/
def Rt (a b c : Int) (w : World) (e : Ending) (w' : World) : Prop := e = .returned (.tuple #[.agg #[.int .i64 a, .int .i64 b], .int .i64 c]) ∧ Below w.heap.size w w'

theorem addRt (t l t' l' : Int) (w : World) : Calls Try.prog 24 #[.agg #[.int .i64 t, .int .i64 l], .agg #[.int .i64 t', .int .i64 l']] w (Rt (resT (fun x y => x + y) t l t' l').1 (resT (fun x y => x + y) t l t' l').2.1 (resT (fun x y => x + y) t l t' l').2.2 w) := addNum_any t l t' l' w
theorem subRt (t l t' l' : Int) (w : World) : Calls Try.prog 25 #[.agg #[.int .i64 t, .int .i64 l], .agg #[.int .i64 t', .int .i64 l']] w (Rt (resT (fun x y => x - y) t l t' l').1 (resT (fun x y => x - y) t l t' l').2.1 (resT (fun x y => x - y) t l t' l').2.2 w) := subNum_any t l t' l' w
theorem mulRt (t l t' l' : Int) (w : World) : Calls Try.prog 14 #[.agg #[.int .i64 t, .int .i64 l], .agg #[.int .i64 t', .int .i64 l']] w (Rt (resT (fun x y => x * y) t l t' l').1 (resT (fun x y => x * y) t l t' l').2.1 (resT (fun x y => x * y) t l t' l').2.2 w) := mulNum_any t l t' l' w
theorem divRt (t l t' l' : Int) (w : World) : Calls Try.prog 26 #[.agg #[.int .i64 t, .int .i64 l], .agg #[.int .i64 t', .int .i64 l']] w (Rt (divT t l t' l').1 (divT t l t' l').2.1 (divT t l t' l').2.2 w) := divNum_any t l t' l' w
theorem powRt (t l n : Int) (w : World) : Calls Try.prog 12 #[.agg #[.int .i64 t, .int .i64 l], .int .i64 n] w (Rt (powT t l n).1 (powT t l n).2.1 (powT t l n).2.2 w) := pow_any t l n w

/-- A result without an error. -/
theorem vld_fits {z : Rat} (h : Fits z) : vld z.num (z.den : Int) = true := by
  obtain ⟨h1, h2⟩ := h
  rw [MaxN_eq] at h1 h2
  have := z.den_nz
  have h3 : Nat.gcd z.num.natAbs z.den = 1 := z.reduced
  simp only [vld, Bool.and_eq_true, Bool.not_eq_true', decide_eq_false_iff_not, beq_iff_eq, Int.toNat_natCast]
  exact ⟨⟨⟨⟨by omega, by omega⟩, by omega⟩, by omega⟩, h3⟩
theorem outT_zero {z : Rat} (h : (outT z).2.2 = 0) : Fits z ∧ outT z = (z.num, (z.den : Int), 0) := by
  unfold outT at h ⊢
  by_cases hf : Fits z
  · rw [if_pos hf]
    exact ⟨hf, rfl⟩
  · rw [if_neg hf] at h
    cases h
theorem resT_zero {f : Rat → Rat → Rat} {t l t' l' : Int} (h : (resT f t l t' l').2.2 = 0) :
    ∃ x y : Rat, t = x.num ∧ l = (x.den : Int) ∧ t' = y.num ∧ l' = (y.den : Int) ∧ vld x.num (x.den : Int) = true ∧ vld y.num (y.den : Int) = true ∧ Fits (f x y) ∧ resT f t l t' l' = ((f x y).num, ((f x y).den : Int), 0) := by
  cases h1 : vld t l
  · rw [resT_bad (by rw [h1]; rfl)] at h
    cases h
  cases h2 : vld t' l'
  · rw [resT_bad (by rw [h1, h2]; rfl)] at h
    cases h
  obtain ⟨x, rfl, rfl, -⟩ := vld_rat h1
  obtain ⟨y, rfl, rfl, -⟩ := vld_rat h2
  rw [resT_ok x y h1 h2] at h ⊢
  obtain ⟨k1, k2⟩ := outT_zero h
  exact ⟨x, y, rfl, rfl, rfl, rfl, h1, h2, k1, k2⟩
theorem rat_eq {x y : Rat} (h1 : x.num = y.num) (h2 : (x.den : Int) = (y.den : Int)) : x = y := Rat.ext h1 (by omega)
theorem resT_comm {f : Rat → Rat → Rat} (hf : ∀ x y, f x y = f y x) (t l t' l' : Int) : resT f t l t' l' = resT f t' l' t l := by
  unfold resT
  rw [hf, Bool.and_comm]

end Go.Proofs.Ytjoanclnaeephaa
