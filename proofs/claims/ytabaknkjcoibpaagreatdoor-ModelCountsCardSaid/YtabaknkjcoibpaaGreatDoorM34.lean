/- Models as memory holds them, and when they are valid: plain facts. append([]Num{}, l...): a list is copied. Rows of numbers in memory, known as a whole: made, written, copied. -/
import Derived.Test.YtabaknkjcoibpaaGreatDoorM33
import Derived.Deep.AppendLies
import Derived.Laws.CopyRow
import Derived.Lib.SlBuf

namespace Go.Proofs.YtabaknkjcoibpaaGreatDoor
open Go.RowKit

/-- A choice: its reward, where its branches lie, and what they are. -/
structure ChV where
  t : Int
  l : Int
  A : Option Addr
  n : Nat
  c : Nat
  tw : Nat → Int
  ct : Nat → Int
  cl : Nat → Int
/-- A state: its owner, its mark, where its choices lie, and what they are. -/
structure StV where
  ow : Int
  mrk : Int
  A : Option Addr
  n : Nat
  c : Nat
  ch : Nat → ChV

/-- n rows of three cells lie in memory, at A. -/
def Rows3 (w : World) (A : Option Addr) (n : Nat) (p q r : Nat → Value) : Prop :=
  0 < n → ∃ b off, A = some ⟨b, off, none⟩ ∧ b < w.heap.size ∧ ∀ i, i < n → w.cell? ⟨b, off + i * 3, none⟩ = some (p i) ∧ w.cell? ⟨b, off + i * 3 + 1, none⟩ = some (q i) ∧ w.cell? ⟨b, off + i * 3 + 2, none⟩ = some (r i)
theorem Rows3.keep {w w' : World} {A : Option Addr} {n : Nat} {p q r : Nat → Value} (H : Rows3 w A n p q r) (hb : Below w.heap.size w w') : Rows3 w' A n p q r := by
  intro hn
  obtain ⟨b, off, hA, hlt, hc⟩ := H hn
  exact ⟨b, off, hA, Nat.lt_of_lt_of_le hlt hb.size, fun i hi => ⟨(hb.cell (p := ⟨b, off + i * 3, none⟩) hlt).trans (hc i hi).1, (hb.cell (p := ⟨b, off + i * 3 + 1, none⟩) hlt).trans (hc i hi).2.1, (hb.cell (p := ⟨b, off + i * 3 + 2, none⟩) hlt).trans (hc i hi).2.2⟩⟩

/-- The branches of a choice lie in memory. -/
def Lbr (w : World) (A : Option Addr) (n : Nat) (tw ct cl : Nat → Int) : Prop := Rows3 w A n (fun i => .int .i64 (tw i)) (fun i => .int .i64 (ct i)) (fun i => .int .i64 (cl i))
theorem Lbr.keep {w w' : World} {A : Option Addr} {n : Nat} {tw ct cl : Nat → Int} (H : Lbr w A n tw ct cl) (hb : Below w.heap.size w w') : Lbr w' A n tw ct cl := Rows3.keep H hb
/-- n choices lie in memory, at A. -/
def Lch (w : World) (A : Option Addr) (n : Nat) (ch : Nat → ChV) : Prop :=
  Rows3 w A n (fun i => .int .i64 (ch i).t) (fun i => .int .i64 (ch i).l) (fun i => .slice (ch i).A (ch i).n (ch i).c) ∧ ∀ i, i < n → Lbr w (ch i).A (ch i).n (ch i).tw (ch i).ct (ch i).cl
theorem Lch.keep {w w' : World} {A : Option Addr} {n : Nat} {ch : Nat → ChV} (H : Lch w A n ch) (hb : Below w.heap.size w w') : Lch w' A n ch := ⟨H.1.keep hb, fun i hi => (H.2 i hi).keep hb⟩
/-- n states lie in memory, at A. -/
def Lst (w : World) (A : Option Addr) (n : Nat) (st : Nat → StV) : Prop :=
  Rows3 w A n (fun i => .int .i64 (st i).ow) (fun i => .int .i64 (st i).mrk) (fun i => .slice (st i).A (st i).n (st i).c) ∧ ∀ i, i < n → Lch w (st i).A (st i).n (st i).ch
theorem Lst.keep {w w' : World} {A : Option Addr} {n : Nat} {st : Nat → StV} (H : Lst w A n st) (hb : Below w.heap.size w w') : Lst w' A n st := ⟨H.1.keep hb, fun i hi => (H.2 i hi).keep hb⟩

/-- Branch i is in order, in a model with ns states. -/
def brB (ns : Nat) (tw ct cl : Nat → Int) (i : Nat) : Bool := !(decide (tw i < 0)) && !(decide ((ns : Int) ≤ tw i)) && !(decide (0 < i) && decide (tw i ≤ tw (i - 1))) && vld (ct i) (cl i) && !(decide (ct i ≤ 0))
/-- The chances of the first k branches together. -/
def chSum (ct cl : Nat → Int) (k : Nat) : Rat := sumQ (fun i => fr (ct i) (cl i)) k
/-- The branches of a choice are in order. -/
def bsB (ns n : Nat) (tw ct cl : Nat → Int) : Bool := !(decide ((n : Int) < 1)) && !(decide ((8 : Int) < (n : Int))) && allB (brB ns tw ct cl) n && decide (chSum ct cl n = 1)
def chB (ns : Nat) (h : ChV) : Bool := vld h.t h.l && bsB ns h.n h.tw h.ct h.cl
def stB (ns : Nat) (s : StV) : Bool := !(decide (s.ow < 0)) && !(decide (1 < s.ow)) && !(decide (s.mrk < 0)) && !(decide (63 < s.mrk)) && !(decide ((s.n : Int) < 1)) && !(decide ((8 : Int) < (s.n : Int))) && allB (fun j => chB ns (s.ch j)) s.n
def moB (n : Nat) (st : Nat → StV) : Bool := !(decide ((n : Int) < 1)) && !(decide ((40 : Int) < (n : Int))) && allB (fun i => stB n (st i)) n

theorem bsB_n {ns n : Nat} {tw ct cl : Nat → Int} (H : bsB ns n tw ct cl = true) : 1 ≤ n ∧ n ≤ 8 := by
  simp only [bsB, Bool.and_eq_true, Bool.not_eq_true', decide_eq_false_iff_not] at H
  omega
theorem stB_n {ns : Nat} {s : StV} (H : stB ns s = true) : 1 ≤ s.n ∧ s.n ≤ 8 ∧ 0 ≤ s.ow ∧ s.ow ≤ 1 ∧ 0 ≤ s.mrk ∧ s.mrk ≤ 63 := by
  simp only [stB, Bool.and_eq_true, Bool.not_eq_true', decide_eq_false_iff_not] at H
  omega
theorem moB_n {n : Nat} {st : Nat → StV} (H : moB n st = true) : 1 ≤ n ∧ n ≤ 40 := by
  simp only [moB, Bool.and_eq_true, Bool.not_eq_true', decide_eq_false_iff_not] at H
  omega
theorem moB_st {n : Nat} {st : Nat → StV} (H : moB n st = true) {i : Nat} (hi : i < n) : stB n (st i) = true := by
  simp only [moB, Bool.and_eq_true] at H
  exact allB_get H.2 hi
theorem stB_ch {ns : Nat} {s : StV} (H : stB ns s = true) {j : Nat} (hj : j < s.n) : chB ns (s.ch j) = true := by
  simp only [stB, Bool.and_eq_true] at H
  exact allB_get H.2 hj
theorem chB_vld {ns : Nat} {h : ChV} (H : chB ns h = true) : vld h.t h.l = true := by
  simp only [chB, Bool.and_eq_true] at H
  exact H.1
theorem chB_bs {ns : Nat} {h : ChV} (H : chB ns h = true) : bsB ns h.n h.tw h.ct h.cl = true := by
  simp only [chB, Bool.and_eq_true] at H
  exact H.2
theorem bsB_br {ns n : Nat} {tw ct cl : Nat → Int} (H : bsB ns n tw ct cl = true) {i : Nat} (hi : i < n) : brB ns tw ct cl i = true := by
  simp only [bsB, Bool.and_eq_true] at H
  exact allB_get H.1.2 hi
theorem brB_open {ns : Nat} {tw ct cl : Nat → Int} {i : Nat} (H : brB ns tw ct cl i = true) : 0 ≤ tw i ∧ tw i < ns ∧ vld (ct i) (cl i) = true ∧ 0 < ct i := by
  simp only [brB, Bool.and_eq_true, Bool.not_eq_true', decide_eq_false_iff_not] at H
  exact ⟨by omega, by omega, H.1.2, by omega⟩

/-- The state ahead of branch k. -/
def bef (tw : Nat → Int) (k : Nat) : Int := if k = 0 then -1 else tw (k - 1)
theorem brB_eq {ns k : Nat} {tw ct cl : Nat → Int} (hv : ∀ i, i < k → brB ns tw ct cl i = true) :
    brB ns tw ct cl k = (!(decide (tw k ≤ bef tw k)) && !(decide ((ns : Int) ≤ tw k)) && vld (ct k) (cl k) && !(decide (ct k ≤ 0))) := by
  have e : (!(decide (tw k < 0)) && !(decide (0 < k) && decide (tw k ≤ tw (k - 1)))) = !(decide (tw k ≤ bef tw k)) := by
    unfold bef
    by_cases h : k = 0
    · subst h
      rw [if_pos rfl, Bool.eq_iff_iff]
      simp
      omega
    · rw [if_neg h]
      have h0 := (brB_open (hv (k - 1) (by omega))).1
      rw [Bool.eq_iff_iff]
      simp
      omega
  rw [← e]
  unfold brB
  cases decide (tw k < 0) <;> cases decide ((ns : Int) ≤ tw k) <;> cases (decide (0 < k) && decide (tw k ≤ tw (k - 1))) <;> rfl

theorem bsB_bad {ns n i : Nat} {tw ct cl : Nat → Int} (hi : i < n) (h : brB ns tw ct cl i = false) : bsB ns n tw ct cl = false := by
  unfold bsB
  rw [allB_false hi h]
  simp
theorem bsB_short {ns n : Nat} {tw ct cl : Nat → Int} (h : n < 1) : bsB ns n tw ct cl = false := by
  unfold bsB
  rw [decide_eq_true (by omega : (n : Int) < 1)]
  rfl
theorem bsB_long {ns n : Nat} {tw ct cl : Nat → Int} (h : 8 < n) : bsB ns n tw ct cl = false := by
  unfold bsB
  rw [decide_eq_true (by omega : (8 : Int) < (n : Int))]
  simp
theorem bsB_end {ns n : Nat} {tw ct cl : Nat → Int} (h1 : 1 ≤ n) (h2 : n ≤ 8) (h : ∀ i, i < n → brB ns tw ct cl i = true) : bsB ns n tw ct cl = decide (chSum ct cl n = 1) := by
  unfold bsB
  rw [allB_true h, decide_eq_false (by omega : ¬ (n : Int) < 1), decide_eq_false (by omega : ¬ (8 : Int) < (n : Int))]
  rfl

/-- A call that gives the same value in whatever world has come of w by new memory alone. -/
def CV (f : Nat) (a : Array Value) (v : Value) (w : World) : Prop := ∀ wx, Below w.heap.size w wx → Calls Tryz.prog f a wx fun e w' => e = .returned v ∧ Below wx.heap.size wx w'
theorem CV.run {f : Nat} {a : Array Value} {v : Value} {w wx : World} (h : CV f a v w) (hb : Below w.heap.size w wx) : Calls Tryz.prog f a wx fun e w' => e = .returned v ∧ Below wx.heap.size wx w' := h wx hb
theorem CV.keep {f : Nat} {a : Array Value} {v : Value} {w w' : World} (h : CV f a v w) (hb : Below w.heap.size w w') : CV f a v w' := fun wx hx => h wx (hb.trans (hx.mono hb.size))

end Go.Proofs.YtabaknkjcoibpaaGreatDoor

namespace Go.Proofs.YtabaknkjcoibpaaGreatDoor
open Go.RowKit

theorem infoNum : (Tryz.prog.info? 62).map (fun i => (i.zero, i.size, i.bytes)) = some (some (.agg #[.int .i64 0, .int .i64 0]), 2, 16) := by kernel_rfl

/-- The cells of a list. -/
def cellsL (n : Nat) (t l : Nat → Int) : List Value := (List.range (n * 2)).map fun j => if j % 2 = 0 then .int .i64 (t (j / 2)) else .int .i64 (l (j / 2))

theorem cellsL_len (n : Nat) (t l : Nat → Int) : (cellsL n t l).length = n * 2 := by simp [cellsL]
theorem cellsL_get {n : Nat} {t l : Nat → Int} {j : Nat} {u : Value} (h : (cellsL n t l)[j]? = some u) : j < n * 2 ∧ u = if j % 2 = 0 then .int .i64 (t (j / 2)) else .int .i64 (l (j / 2)) := by
  unfold cellsL at h
  rw [List.getElem?_map] at h
  rcases Nat.lt_or_ge j (n * 2) with g | g
  · rw [List.getElem?_range g] at h
    exact ⟨g, (Option.some.inj h).symm⟩
  · rw [List.getElem?_eq_none (by simpa using g)] at h
    cases h
theorem cellsL_one (n : Nat) (t l : Nat → Int) : ∀ u ∈ cellsL n t l, u.oneCell' = true := by
  intro u hu
  unfold cellsL at hu
  obtain ⟨j, -, rfl⟩ := List.mem_map.1 hu
  split <;> rfl

/-- The copy. -/
def Copied (W : World) (g n : Nat) (t l : Nat → Int) (v : Value) (W' : World) : Prop := ∃ A' c', v = .slice A' n c' ∧ Lnum W' A' n t l ∧ W.grownBy W' (some g)

theorem run_copy (W : World) (g ty : Nat) (A : Option Addr) (n ca : Nat) (t l : Nat → Int) (hg : W.heap[g]? = some (.cells #[] 62 (0, 0))) (hA : Lnum W A n t l) (hn : n ≤ 200) :
    ∃ v W', (Builtin.append_ #[156, 156] ty #[.slice (some ⟨g, 0, none⟩) 0 0, .slice A n ca]).run Tryz.prog W = .ok v W' ∧ Copied W g n t l v W' := by
  have hgl : g < W.heap.size := lt_of_heap hg
  obtain ⟨i, hi, hz, hs, hb⟩ : ∃ i, Tryz.prog.info? 62 = some i ∧ i.zero = some (.agg #[.int .i64 0, .int .i64 0]) ∧ i.size = 2 ∧ i.bytes = 16 := by
    have h := infoNum
    cases hi : Tryz.prog.info? 62 with
    | none => rw [hi] at h; cases h
    | some i =>
      rw [hi] at h
      simp only [Option.map_some, Option.some.injEq, Prod.mk.injEq] at h
      exact ⟨i, rfl, h.1, h.2.1, h.2.2⟩
  have hown : W.ownsRow 0 62 2 (.slice (some ⟨g, 0, none⟩) 0 0) 0 [] := ⟨rfl, Or.inr ⟨g, 0, #[], rfl, Nat.zero_le _, hg, Nat.le_refl _, Nat.zero_le _, rfl, rfl⟩⟩
  rcases Nat.eq_zero_or_pos n with h0 | h0
  · subst h0
    refine ⟨.slice (some ⟨g, 0, none⟩) 0 0, W, ?_, _, _, rfl, fun h => absurd h (by omega), World.grownBy.refl W _⟩
    cases A with
    | none => simp [Builtin.append_, run_underlying Tryz.underlying156, sizeOf, typeInfo, hi, Builtin.lenOf, run_firstCells_none, storeCells]
    | some a =>
      have h0' : (loadCells a 0).run Tryz.prog W = .ok #[] W := run_loadCells_list W a [] (fun j v h => by simp at h)
      simp [Builtin.append_, run_underlying Tryz.underlying156, sizeOf, typeInfo, hi, Builtin.lenOf, Builtin.firstCells, storeCells, h0']
  · obtain ⟨b, off, rfl, hbl, hc⟩ := hA h0
    obtain ⟨g', cap, W', h1, h2, h3, h4, h5⟩ := run_append_lies (P := Tryz.prog) W 156 ty 0 62 i _ 2 16 Tryz.underlying156 hi hz hs hb rfl (by omega) _ 0 [] hown ⟨b, off, none⟩ n ca (cellsL n t l) (cellsL_len n t l)
      (fun j u hu => by
        obtain ⟨hj, e⟩ := cellsL_get hu
        have hadd : (⟨b, off, none⟩ : Addr).add j = ⟨b, off + j, none⟩ := by unfold Addr.add; split <;> simp_all
        rw [hadd, e]
        have hh := hc (j / 2) (by omega)
        by_cases p : j % 2 = 0
        · rw [if_pos p, show off + j = off + j / 2 * 2 from by omega]
          exact hh.1
        · rw [if_neg p, show off + j = off + j / 2 * 2 + 1 from by omega]
          exact hh.2)
      (cellsL_one n t l) h0 (by unfold maxLen; omega) (by omega) (Nat.zero_le _) _ rfl
    rw [Nat.zero_add, List.nil_append] at h2
    rw [Nat.zero_add] at h1
    refine ⟨_, W', h1, _, _, rfl, fun _ => ⟨g', 0, rfl, h5, fun k hk => ?_⟩, h3⟩
    have e1 := h2.cellAt (k * 2) (by omega)
    have e2 := h2.cellAt (k * 2 + 1) (by omega)
    rw [Nat.zero_add]
    have q1 : (cellsL n t l)[k * 2]? = some (.int .i64 (t k)) := by
      unfold cellsL
      rw [List.getElem?_map, List.getElem?_range (by omega)]
      simp
    have q2 : (cellsL n t l)[k * 2 + 1]? = some (.int .i64 (l k)) := by
      unfold cellsL
      rw [List.getElem?_map, List.getElem?_range (by omega)]
      have : (k * 2 + 1) / 2 = k := by omega
      have h2 : (k * 2 + 1) % 2 = 1 := by omega
      simp [this, h2]
    rw [q1] at e1
    rw [q2] at e2
    exact ⟨e1, e2⟩

theorem wpList_copy {ops : Array Oper} {rest : List Oper} {o : Oper} {a : Act} {Q : Exit → Act → World → Prop} {W : World} (hgd : o.guard = none) (s x : Operand)
    (ho : o.op = .call { callee := .builtin .append, args := #[s, x], argTypes := #[156, 156] })
    (g : Nat) (A : Option Addr) (n ca : Nat) (t l : Nat → Int) (hs : a.eval s = .slice (some ⟨g, 0, none⟩) 0 0) (hx : a.eval x = .slice A n ca)
    (hg : W.heap[g]? = some (.cells #[] 62 (0, 0))) (hA : Lnum W A n t l) (hn : n ≤ 200)
    (h : ∀ v W', Copied W g n t l v W' → wpList Tryz.prog ops Q rest (a.put o.dst v) W') : wpList Tryz.prog ops Q (o :: rest) a W :=
  wpList_plain hgd fun K hK => by
    obtain ⟨v, W', hr, hc⟩ := run_copy W g o.type A n ca t l hg hA hn
    unfold Oper.wp execOp
    simp only [ho, resolve, invoke, builtin, Sem.run_bind, Sem.run_pure, Result.andThen_ok, List.map_toArray, List.map_cons, List.map_nil, hs, hx, hr]
    exact hK _ _ (h v W' hc)

theorem grown_below {W W' : World} {g b : Nat} (h : W.grownBy W' (some g)) (hb : b ≤ g) (hW : b ≤ W.heap.size) : Below b W W' :=
  ⟨h.os, h.tape, h.output, h.size, fun k hk => h.block k (by omega) (fun e => by injection e with e; omega)⟩

end Go.Proofs.YtabaknkjcoibpaaGreatDoor

namespace Go.Proofs.YtabaknkjcoibpaaGreatDoor
open Go.RowKit

/-- Block g holds n numbers, t i / l i, and nothing else. -/
def Rn (w : World) (g n : Nat) (t l : Nat → Int) : Prop := w.heap[g]? = some (.cells (cellsL n t l).toArray 62 (0, 0))
theorem Rn.lt {w : World} {g n : Nat} {t l : Nat → Int} (h : Rn w g n t l) : g < w.heap.size := lt_of_heap h
theorem Rn.keep {w w' : World} {g n : Nat} {t l : Nat → Int} (h : Rn w g n t l) (hb : Below w.heap.size w w') : Rn w' g n t l := (hb.block g h.lt).trans h
theorem Rn.drewN {w : World} {g n : Nat} {t l : Nat → Int} (h : Rn w g n t l) (q : Nat) : Rn (w.drewN q) g n t l := h
theorem cellsL_at0 {n i : Nat} (t l : Nat → Int) (hi : i < n) : (cellsL n t l)[i * 2]? = some (.int .i64 (t i)) := by
  unfold cellsL
  rw [List.getElem?_map, List.getElem?_range (by omega)]
  simp
theorem cellsL_at1 {n i : Nat} (t l : Nat → Int) (hi : i < n) : (cellsL n t l)[i * 2 + 1]? = some (.int .i64 (l i)) := by
  unfold cellsL
  rw [List.getElem?_map, List.getElem?_range (by omega)]
  have : (i * 2 + 1) / 2 = i := by omega
  have h2 : (i * 2 + 1) % 2 = 1 := by omega
  simp [this, h2]
theorem Rn.cellAt {w : World} {g n : Nat} {t l : Nat → Int} (h : Rn w g n t l) {j : Nat} {u : Value} (hu : (cellsL n t l)[j]? = some u) : w.cell? ⟨g, j, none⟩ = some u := by
  have hh : w.heap[g]? = some (.cells (cellsL n t l).toArray 62 (0, 0)) := h
  unfold World.cell?
  simp [hh, hu]
theorem Rn.frozenAt {w : World} {g n : Nat} {t l : Nat → Int} (h : Rn w g n t l) (j : Nat) : w.frozen? ⟨g, j, none⟩ = false := by
  have hh : w.heap[g]? = some (.cells (cellsL n t l).toArray 62 (0, 0)) := h
  unfold World.frozen?
  simp [hh]
theorem Rn.num {w : World} {g n : Nat} {t l : Nat → Int} (h : Rn w g n t l) : Lnum w (some ⟨g, 0, none⟩) n t l := fun _ =>
  ⟨g, 0, rfl, h.lt, fun i hi => by rw [Nat.zero_add]; exact ⟨h.cellAt (cellsL_at0 t l hi), h.cellAt (cellsL_at1 t l hi)⟩⟩
theorem cellsL_congr {n : Nat} {t l t' l' : Nat → Int} (ht : ∀ i, i < n → t i = t' i) (hl : ∀ i, i < n → l i = l' i) : cellsL n t l = cellsL n t' l' := by
  unfold cellsL
  refine List.map_congr_left fun j hj => ?_
  have := List.mem_range.1 hj
  rw [ht (j / 2) (by omega), hl (j / 2) (by omega)]
theorem made_nums (n : Nat) : madeCells #[.int .i64 0, .int .i64 0] (n * 2) = (cellsL n (fun _ => 0) (fun _ => 0)).toArray := by
  apply Array.ext'
  apply List.ext_getElem?
  intro j
  have e1 : (madeCells #[Value.int .i64 0, Value.int .i64 0] (n * 2)).toList = (List.range (n * 2)).map (fun k => #[Value.int .i64 0, Value.int .i64 0][k % 2]!) := by
    simp [madeCells, ← Array.toList_range]
  rw [e1]
  unfold cellsL
  rw [List.getElem?_map, List.getElem?_map]
  congr 1
  funext k
  rcases (by omega : k % 2 = 0 ∨ k % 2 = 1) with h | h <;> simp [h]
theorem make_nums (n : Nat) (h : n ≤ 4000000) (w : World) :
    (Instr.makeSlice 156 (.int .i64 (n : Int)) (.int .i64 (n : Int))).run Tryz.prog w = .ok (.slice (some ⟨w.heap.size, 0, none⟩) n n) (w.alloc (.cells (cellsL n (fun _ => 0) (fun _ => 0)).toArray 62)) := by
  obtain ⟨i, hi, hz, hs, hb⟩ : ∃ i, Tryz.prog.info? 62 = some i ∧ i.zero = some (.agg #[.int .i64 0, .int .i64 0]) ∧ i.size = 2 ∧ i.bytes = 16 := by
    have h := infoNum
    cases hi : Tryz.prog.info? 62 with
    | none => rw [hi] at h; cases h
    | some i =>
      rw [hi] at h
      simp only [Option.map_some, Option.some.injEq, Prod.mk.injEq] at h
      exact ⟨i, rfl, h.1, h.2.1, h.2.2⟩
  have hr := run_make (P := Tryz.prog) w 156 62 i _ Tryz.underlying156 hi hz .i64 .i64 n n (by omega) (Int.le_refl _) (by rw [hb]; omega) (by omega)
  simp only [Int.toNat_natCast, hs] at hr
  rw [hr]
  have e : (Value.agg #[Value.int .i64 0, Value.int .i64 0]).cells = #[Value.int .i64 0, Value.int .i64 0] := rfl
  rw [e, made_nums]
theorem Rn.new (w : World) (n : Nat) : Rn (w.alloc (.cells (cellsL n (fun _ => 0) (fun _ => 0)).toArray 62)) w.heap.size n (fun _ => 0) (fun _ => 0) := heap_alloc_new w _

/-- A part is overwritten. -/
theorem cellsL_splice (n k m : Nat) (t l t' l' : Nat → Int) (h : k + m ≤ n) :
    (cellsL n t l).take (k * 2) ++ cellsL m t' l' ++ (cellsL n t l).drop (k * 2 + m * 2) = cellsL n (fun i => if k ≤ i ∧ i < k + m then t' (i - k) else t i) (fun i => if k ≤ i ∧ i < k + m then l' (i - k) else l i) := by
  apply List.ext_getElem?
  intro j
  have hlen1 : ((cellsL n t l).take (k * 2)).length = k * 2 := by rw [List.length_take, cellsL_len]; omega
  rcases Nat.lt_or_ge j (n * 2) with hj | hj
  · have hR : (cellsL n (fun i => if k ≤ i ∧ i < k + m then t' (i - k) else t i) (fun i => if k ≤ i ∧ i < k + m then l' (i - k) else l i))[j]? = some (if j % 2 = 0 then .int .i64 (if k ≤ j / 2 ∧ j / 2 < k + m then t' (j / 2 - k) else t (j / 2)) else .int .i64 (if k ≤ j / 2 ∧ j / 2 < k + m then l' (j / 2 - k) else l (j / 2))) := by
      unfold cellsL
      rw [List.getElem?_map, List.getElem?_range hj]
      rfl
    have hT : (cellsL n t l)[j]? = some (if j % 2 = 0 then .int .i64 (t (j / 2)) else .int .i64 (l (j / 2))) := by
      unfold cellsL
      rw [List.getElem?_map, List.getElem?_range hj]
      rfl
    rw [hR, List.append_assoc]
    rcases Nat.lt_or_ge j (k * 2) with h1 | h1
    · have hc : ¬ (k ≤ j / 2 ∧ j / 2 < k + m) := by omega
      rw [List.getElem?_append_left (by rw [hlen1]; exact h1), List.getElem?_take_of_lt h1, hT, if_neg hc, if_neg hc]
    · rw [List.getElem?_append_right (by rw [hlen1]; exact h1), hlen1]
      rcases Nat.lt_or_ge j (k * 2 + m * 2) with h2 | h2
      · have hc : k ≤ j / 2 ∧ j / 2 < k + m := by omega
        rw [List.getElem?_append_left (by rw [cellsL_len]; omega)]
        unfold cellsL
        rw [List.getElem?_map, List.getElem?_range (by omega), if_pos hc, if_pos hc]
        have e1 : (j - k * 2) % 2 = j % 2 := by omega
        have e2 : (j - k * 2) / 2 = j / 2 - k := by omega
        simp only [Option.map_some, e1, e2]
      · have hc : ¬ (k ≤ j / 2 ∧ j / 2 < k + m) := by omega
        rw [List.getElem?_append_right (by rw [cellsL_len]; omega), List.getElem?_drop, cellsL_len, show k * 2 + m * 2 + (j - k * 2 - m * 2) = j from by omega, hT, if_neg hc, if_neg hc]
  · rw [List.getElem?_eq_none (by simp only [List.length_append, List.length_drop, cellsL_len, hlen1]; omega), List.getElem?_eq_none (by rw [cellsL_len]; exact hj)]

/-- One number is written. -/
theorem Rn.put {w : World} {g n : Nat} {t l : Nat → Int} (h : Rn w g n t l) {k : Nat} (hk : k < n) (a b : Int) :
    Rn ((w.setCell ⟨g, k * 2, none⟩ (.int .i64 a)).setCell ⟨g, k * 2 + 1, none⟩ (.int .i64 b)) g n (fun i => if i = k then a else t i) (fun i => if i = k then b else l i) := by
  have hh : w.heap[g]? = some (.cells (cellsL n t l).toArray 62 (0, 0)) := h
  rw [setCell_eq_setRow w g (k * 2) _ _ (0, 0) _ hh]
  have h2 := setRow_heap w g (cellsL n t l).toArray ((cellsL n t l).toArray.setIfInBounds (k * 2) (.int .i64 a)) 62 (0, 0) hh
  rw [setCell_eq_setRow _ g (k * 2 + 1) _ _ (0, 0) _ h2]
  show (World.setRow _ g _).heap[g]? = _
  rw [setRow_heap _ g _ _ _ _ h2]
  congr 2
  apply Array.ext'
  apply List.ext_getElem?
  intro j
  simp only [Array.toList_setIfInBounds]
  rw [List.getElem?_set, List.getElem?_set]
  simp only [List.length_set, cellsL_len]
  rcases Nat.lt_or_ge j (n * 2) with hj | hj
  · have hR : (cellsL n (fun i => if i = k then a else t i) (fun i => if i = k then b else l i))[j]? = some (if j % 2 = 0 then .int .i64 (if j / 2 = k then a else t (j / 2)) else .int .i64 (if j / 2 = k then b else l (j / 2))) := by
      unfold cellsL
      rw [List.getElem?_map, List.getElem?_range hj]
      rfl
    have hT : (cellsL n t l)[j]? = some (if j % 2 = 0 then .int .i64 (t (j / 2)) else .int .i64 (l (j / 2))) := by
      unfold cellsL
      rw [List.getElem?_map, List.getElem?_range hj]
      rfl
    rw [hR, hT]
    by_cases e1 : k * 2 + 1 = j
    · have c1 : ¬ j % 2 = 0 := by omega
      have c2 : j / 2 = k := by omega
      rw [if_pos e1, if_pos (by omega), if_neg c1, if_pos c2]
    · rw [if_neg e1]
      by_cases e2 : k * 2 = j
      · have c1 : j % 2 = 0 := by omega
        have c2 : j / 2 = k := by omega
        rw [if_pos e2, if_pos (by omega), if_pos c1, if_pos c2]
      · rw [if_neg e2]
        by_cases e3 : j / 2 = k
        · omega
        · rw [if_neg e3, if_neg e3]
  · rw [if_neg (by omega), if_neg (by omega), List.getElem?_eq_none (by rw [cellsL_len]; exact hj), List.getElem?_eq_none (by rw [cellsL_len]; exact hj)]

/-- copy(dst[k:], src[:..]): numbers. -/
theorem run_copy2 (w : World) (ty g k dLen dCap n m : Nat) (a : Addr) (sLen sCap : Nat) (t l t' l' : Nat → Int) (h : Rn w g n t l) (hm : m = Nat.min sLen dLen) (hk : k + m ≤ n)
    (hsrc : ∀ j v, (cellsL m t' l')[j]? = some v → w.cell? (a.add j) = some v) :
    (Builtin.copy_ #[156, 156] ty #[.slice (some ⟨g, k * 2, none⟩) dLen dCap, .slice (some a) sLen sCap]).run Tryz.prog w =
      .ok (.int .i64 (m : Int)) (w.setRow g (cellsL n (fun i => if k ≤ i ∧ i < k + m then t' (i - k) else t i) (fun i => if k ≤ i ∧ i < k + m then l' (i - k) else l i)).toArray) := by
  have hh : w.heap[g]? = some (.cells (cellsL n t l).toArray 62 (0, 0)) := h
  have hl := run_loadCells_list (P := Tryz.prog) w a (cellsL m t' l') hsrc
  have hst := run_storeCells_at Tryz.prog g (k * 2) 62 (cellsL m t' l') 0 (cellsL n t l).toArray w hh (by simp only [cellsL_len, List.size_toArray]; omega) (cellsL_one m t' l')
  rw [cellsL_len] at hl hst
  simp only [Nat.add_zero] at hst
  rw [cellsL_splice n k m t l t' l' hk] at hst
  obtain ⟨i, hi, hz, hs, hb⟩ : ∃ i, Tryz.prog.info? 62 = some i ∧ i.zero = some (.agg #[.int .i64 0, .int .i64 0]) ∧ i.size = 2 ∧ i.bytes = 16 := by
    have h := infoNum
    cases hi : Tryz.prog.info? 62 with
    | none => rw [hi] at h; cases h
    | some i =>
      rw [hi] at h
      simp only [Option.map_some, Option.some.injEq, Prod.mk.injEq] at h
      exact ⟨i, rfl, h.1, h.2.1, h.2.2⟩
  subst hm
  simp [Builtin.copy_, run_underlying Tryz.underlying156, Builtin.lenOf, Builtin.firstCells, sizeOf, typeInfo, hi, hs, hl, hst, goInt]

end Go.Proofs.YtabaknkjcoibpaaGreatDoor
