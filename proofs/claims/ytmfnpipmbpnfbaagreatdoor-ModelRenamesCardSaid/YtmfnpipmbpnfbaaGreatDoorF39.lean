/- Rows of three cells that are made, written and appended to: states, choices, branches in new memory. -/
import Derived.Test.YtmfnpipmbpnfbaaGreatDoorF26
import Derived.Test.YtmfnpipmbpnfbaaGreatDoorF27

set_option maxRecDepth 100000
set_option maxHeartbeats 40000000
namespace Go.Proofs.YtmfnpipmbpnfbaaGreatDoor
open Go.RowKit
def cells3 (n : Nat) (p q r : Nat → Value) : List Value := (List.range (n * 3)).map fun j => if j % 3 = 0 then p (j / 3) else if j % 3 = 1 then q (j / 3) else r (j / 3)
theorem cells3_len (n : Nat) (p q r : Nat → Value) : (cells3 n p q r).length = n * 3 := by simp [cells3]
theorem cells3_get {n : Nat} {p q r : Nat → Value} {j : Nat} {u : Value} (h : (cells3 n p q r)[j]? = some u) : j < n * 3 ∧ u = if j % 3 = 0 then p (j / 3) else if j % 3 = 1 then q (j / 3) else r (j / 3) := by
  unfold cells3 at h
  rw [List.getElem?_map] at h
  rcases Nat.lt_or_ge j (n * 3) with g | g
  · rw [List.getElem?_range g] at h
    exact ⟨g, (Option.some.inj h).symm⟩
  · rw [List.getElem?_eq_none (by simpa using g)] at h
    cases h
theorem cells3_at0 {n i : Nat} (p q r : Nat → Value) (hi : i < n) : (cells3 n p q r)[i * 3]? = some (p i) := by
  unfold cells3
  rw [List.getElem?_map, List.getElem?_range (by omega)]
  have h1 : i * 3 % 3 = 0 := by omega
  have h2 : i * 3 / 3 = i := by omega
  simp only [Option.map_some, h1, h2, if_true]
theorem cells3_at1 {n i : Nat} (p q r : Nat → Value) (hi : i < n) : (cells3 n p q r)[i * 3 + 1]? = some (q i) := by
  unfold cells3
  rw [List.getElem?_map, List.getElem?_range (by omega)]
  have h1 : (i * 3 + 1) % 3 = 1 := by omega
  have h2 : (i * 3 + 1) / 3 = i := by omega
  have h3 : ¬ (1 : Nat) = 0 := by omega
  simp only [Option.map_some, h1, h2, if_neg h3, if_true]
theorem cells3_at2 {n i : Nat} (p q r : Nat → Value) (hi : i < n) : (cells3 n p q r)[i * 3 + 2]? = some (r i) := by
  unfold cells3
  rw [List.getElem?_map, List.getElem?_range (by omega)]
  have h1 : (i * 3 + 2) % 3 = 2 := by omega
  have h2 : (i * 3 + 2) / 3 = i := by omega
  have h3 : ¬ (2 : Nat) = 0 := by omega
  have h4 : ¬ (2 : Nat) = 1 := by omega
  simp only [Option.map_some, h1, h2, if_neg h3, if_neg h4]
theorem cells3_congr {n : Nat} {p q r p' q' r' : Nat → Value} (hp : ∀ i, i < n → p i = p' i) (hq : ∀ i, i < n → q i = q' i) (hr : ∀ i, i < n → r i = r' i) : cells3 n p q r = cells3 n p' q' r' := by
  unfold cells3
  refine List.map_congr_left fun j hj => ?_
  have := List.mem_range.1 hj
  rw [hp (j / 3) (by omega), hq (j / 3) (by omega), hr (j / 3) (by omega)]
theorem cells3_snoc (n : Nat) (p q r : Nat → Value) : cells3 (n + 1) p q r = cells3 n p q r ++ [p n, q n, r n] := by
  unfold cells3
  rw [show (n + 1) * 3 = n * 3 + 1 + 1 + 1 by omega, List.range_succ, List.range_succ, List.range_succ]
  have a1 : n * 3 % 3 = 0 := by omega
  have a2 : n * 3 / 3 = n := by omega
  have b1 : (n * 3 + 1) % 3 = 1 := by omega
  have b2 : (n * 3 + 1) / 3 = n := by omega
  have c1 : (n * 3 + 1 + 1) % 3 = 2 := by omega
  have c2 : (n * 3 + 1 + 1) / 3 = n := by omega
  simp [a1, a2, b1, b2, c1, c2]
def Rows3P (P : Nat → Prop) (w : World) (A : Option Addr) (n : Nat) (p q r : Nat → Value) : Prop :=
  0 < n → ∃ b off, A = some ⟨b, off, none⟩ ∧ b < w.heap.size ∧ P b ∧ ∀ i, i < n → w.cell? ⟨b, off + i * 3, none⟩ = some (p i) ∧ w.cell? ⟨b, off + i * 3 + 1, none⟩ = some (q i) ∧ w.cell? ⟨b, off + i * 3 + 2, none⟩ = some (r i)
theorem Rows3P.to {P : Nat → Prop} {w : World} {A : Option Addr} {n : Nat} {p q r : Nat → Value} (h : Rows3P P w A n p q r) : Rows3 w A n p q r := fun hn => by
  obtain ⟨b, off, e, hb, -, hc⟩ := h hn
  exact ⟨b, off, e, hb, hc⟩
theorem Rows3P.of {P : Nat → Prop} {w : World} {A : Option Addr} {n : Nat} {p q r : Nat → Value} (h : Rows3 w A n p q r) (hP : ∀ b, b < w.heap.size → P b) : Rows3P P w A n p q r := fun hn => by
  obtain ⟨b, off, e, hb, hc⟩ := h hn
  exact ⟨b, off, e, hb, hP b hb, hc⟩
theorem Rows3P.imp {P P' : Nat → Prop} {w : World} {A : Option Addr} {n : Nat} {p q r : Nat → Value} (h : Rows3P P w A n p q r) (hP : ∀ b, b < w.heap.size → P b → P' b) : Rows3P P' w A n p q r := fun hn => by
  obtain ⟨b, off, e, hb, hp, hc⟩ := h hn
  exact ⟨b, off, e, hb, hP b hb hp, hc⟩
theorem Rows3P.stay {P : Nat → Prop} {w w' : World} {A : Option Addr} {n : Nat} {p q r : Nat → Value} (h : Rows3P P w A n p q r) (hs : w.heap.size ≤ w'.heap.size) (hb : ∀ b, b < w.heap.size → P b → w'.heap[b]? = w.heap[b]?) : Rows3P P w' A n p q r := fun hn => by
  obtain ⟨b, off, e, hlt, hp, hc⟩ := h hn
  have hh := hb b hlt hp
  exact ⟨b, off, e, Nat.lt_of_lt_of_le hlt hs, hp, fun i hi => ⟨(World.cell?_of_block (w := w) (a := ⟨b, off + i * 3, none⟩) hh).trans (hc i hi).1, (World.cell?_of_block (w := w) (a := ⟨b, off + i * 3 + 1, none⟩) hh).trans (hc i hi).2.1, (World.cell?_of_block (w := w) (a := ⟨b, off + i * 3 + 2, none⟩) hh).trans (hc i hi).2.2⟩⟩
def BrP (P : Nat → Prop) (w : World) (h : ChV) : Prop := Rows3P P w h.A h.n (fun i => .int .i64 (h.tw i)) (fun i => .int .i64 (h.ct i)) (fun i => .int .i64 (h.cl i))
def StP (P : Nat → Prop) (w : World) (s : StV) : Prop :=
  Rows3P P w s.A s.n (fun i => .int .i64 (s.ch i).t) (fun i => .int .i64 (s.ch i).l) (fun i => .slice (s.ch i).A (s.ch i).n (s.ch i).c) ∧ ∀ j, j < s.n → BrP P w (s.ch j)
theorem BrP.to {P : Nat → Prop} {w : World} {h : ChV} (H : BrP P w h) : Lbr w h.A h.n h.tw h.ct h.cl := Rows3P.to H
theorem BrP.of {P : Nat → Prop} {w : World} {h : ChV} (H : Lbr w h.A h.n h.tw h.ct h.cl) (hP : ∀ b, b < w.heap.size → P b) : BrP P w h := Rows3P.of H hP
theorem BrP.imp {P P' : Nat → Prop} {w : World} {h : ChV} (H : BrP P w h) (hP : ∀ b, b < w.heap.size → P b → P' b) : BrP P' w h := Rows3P.imp H hP
theorem BrP.stay {P : Nat → Prop} {w w' : World} {h : ChV} (H : BrP P w h) (hs : w.heap.size ≤ w'.heap.size) (hb : ∀ b, b < w.heap.size → P b → w'.heap[b]? = w.heap[b]?) : BrP P w' h := Rows3P.stay H hs hb
theorem StP.to {P : Nat → Prop} {w : World} {s : StV} (H : StP P w s) : Lch w s.A s.n s.ch := ⟨H.1.to, fun i hi => (H.2 i hi).to⟩
theorem StP.of {P : Nat → Prop} {w : World} {s : StV} (H : Lch w s.A s.n s.ch) (hP : ∀ b, b < w.heap.size → P b) : StP P w s := ⟨Rows3P.of H.1 hP, fun i hi => BrP.of (H.2 i hi) hP⟩
theorem StP.imp {P P' : Nat → Prop} {w : World} {s : StV} (H : StP P w s) (hP : ∀ b, b < w.heap.size → P b → P' b) : StP P' w s := ⟨H.1.imp hP, fun i hi => (H.2 i hi).imp hP⟩
theorem StP.stay {P : Nat → Prop} {w w' : World} {s : StV} (H : StP P w s) (hs : w.heap.size ≤ w'.heap.size) (hb : ∀ b, b < w.heap.size → P b → w'.heap[b]? = w.heap[b]?) : StP P w' s := ⟨H.1.stay hs hb, fun i hi => (H.2 i hi).stay hs hb⟩
def ChLk (h h' : ChV) : Prop := h.t = h'.t ∧ h.l = h'.l ∧ h.n = h'.n ∧ ∀ i, i < h'.n → h.tw i = h'.tw i ∧ h.ct i = h'.ct i ∧ h.cl i = h'.cl i
def StL (s s' : StV) : Prop := s.ow = s'.ow ∧ s.mrk = s'.mrk ∧ s.n = s'.n ∧ ∀ j, j < s'.n → ChLk (s.ch j) (s'.ch j)
theorem ChLk.refl (h : ChV) : ChLk h h := ⟨rfl, rfl, rfl, fun _ _ => ⟨rfl, rfl, rfl⟩⟩
theorem StL.refl (s : StV) : StL s s := ⟨rfl, rfl, rfl, fun _ _ => ChLk.refl _⟩
theorem ChLk.trans {h h' h'' : ChV} (H : ChLk h h') (H' : ChLk h' h'') : ChLk h h'' := ⟨H.1.trans H'.1, H.2.1.trans H'.2.1, H.2.2.1.trans H'.2.2.1, fun i hi => by
  obtain ⟨a, b, c⟩ := H'.2.2.2 i hi
  rw [← H'.2.2.1] at hi
  obtain ⟨a', b', c'⟩ := H.2.2.2 i hi
  exact ⟨a'.trans a, b'.trans b, c'.trans c⟩⟩
def R3 (w : World) (g T n : Nat) (p q r : Nat → Value) : Prop := w.rowIs g T (n * 3) (fun j => if j % 3 = 0 then p (j / 3) else if j % 3 = 1 then q (j / 3) else r (j / 3))
theorem R3.lt {w : World} {g T n : Nat} {p q r : Nat → Value} (h : R3 w g T n p q r) : g < w.heap.size := World.rowIs.lt h
theorem R3.block {w w' : World} {g T n : Nat} {p q r : Nat → Value} (h : R3 w g T n p q r) (e : w'.heap[g]? = w.heap[g]?) : R3 w' g T n p q r := World.rowIs.of_block h e
theorem R3.keep {w w' : World} {g T n : Nat} {p q r : Nat → Value} (h : R3 w g T n p q r) (hb : Below w.heap.size w w') : R3 w' g T n p q r := h.block (hb.block g h.lt)
theorem R3.frozen {w : World} {g T n : Nat} {p q r : Nat → Value} (h : R3 w g T n p q r) (i : Nat) : w.frozen? ⟨g, i, none⟩ = false := World.rowIs.frozen h i
theorem R3.rows {P : Nat → Prop} {w : World} {g T n : Nat} {p q r : Nat → Value} (h : R3 w g T n p q r) (hP : P g) : Rows3P P w (some ⟨g, 0, none⟩) n p q r := fun _ =>
  ⟨g, 0, rfl, h.lt, hP, fun i hi => by
    have c0 := World.rowIs.cell h (i := i * 3) (by omega)
    have c1 := World.rowIs.cell h (i := i * 3 + 1) (by omega)
    have c2 := World.rowIs.cell h (i := i * 3 + 2) (by omega)
    have a1 : i * 3 % 3 = 0 := by omega
    have a2 : i * 3 / 3 = i := by omega
    have b1 : (i * 3 + 1) % 3 = 1 := by omega
    have b2 : (i * 3 + 1) / 3 = i := by omega
    have d1 : (i * 3 + 2) % 3 = 2 := by omega
    have d2 : (i * 3 + 2) / 3 = i := by omega
    simp only [a1, a2, if_true] at c0
    simp only [b1, b2, if_true, if_neg (show ¬ (1 : Nat) = 0 by omega)] at c1
    simp only [d1, d2, if_neg (show ¬ (2 : Nat) = 0 by omega), if_neg (show ¬ (2 : Nat) = 1 by omega)] at c2
    rw [Nat.zero_add]
    exact ⟨c0, c1, c2⟩⟩
theorem R3.put {w : World} {g T n : Nat} {p q r : Nat → Value} (h : R3 w g T n p q r) (k : Nat) (a b c : Value) :
    R3 (((w.setCell ⟨g, k * 3, none⟩ a).setCell ⟨g, k * 3 + 1, none⟩ b).setCell ⟨g, k * 3 + 2, none⟩ c) g T n (fun i => if i = k then a else p i) (fun i => if i = k then b else q i) (fun i => if i = k then c else r i) := by
  refine World.rowIs.congr (World.rowIs.set (World.rowIs.set (World.rowIs.set h (k * 3) a) (k * 3 + 1) b) (k * 3 + 2) c) fun j _ => ?_
  show (if j = k * 3 + 2 then c else if j = k * 3 + 1 then b else if j = k * 3 then a else (if j % 3 = 0 then p (j / 3) else if j % 3 = 1 then q (j / 3) else r (j / 3))) = (if j % 3 = 0 then (if j / 3 = k then a else p (j / 3)) else if j % 3 = 1 then (if j / 3 = k then b else q (j / 3)) else (if j / 3 = k then c else r (j / 3)))
  by_cases e2 : j = k * 3 + 2
  · have d1 : ¬ j % 3 = 0 := by omega
    have d2 : ¬ j % 3 = 1 := by omega
    have d3 : j / 3 = k := by omega
    rw [if_pos e2, if_neg d1, if_neg d2, if_pos d3]
  · rw [if_neg e2]
    by_cases e1 : j = k * 3 + 1
    · have d1 : ¬ j % 3 = 0 := by omega
      have d2 : j % 3 = 1 := by omega
      have d3 : j / 3 = k := by omega
      rw [if_pos e1, if_neg d1, if_pos d2, if_pos d3]
    · rw [if_neg e1]
      by_cases e0 : j = k * 3
      · have d1 : j % 3 = 0 := by omega
        have d3 : j / 3 = k := by omega
        rw [if_pos e0, if_pos d1, if_pos d3]
      · rw [if_neg e0]
        have d3 : ¬ j / 3 = k := by omega
        rw [if_neg d3, if_neg d3, if_neg d3]
theorem R3.congr {w : World} {g T n : Nat} {p q r p' q' r' : Nat → Value} (h : R3 w g T n p q r) (hp : ∀ i, i < n → p i = p' i) (hq : ∀ i, i < n → q i = q' i) (hr : ∀ i, i < n → r i = r' i) : R3 w g T n p' q' r' :=
  World.rowIs.congr h fun j hj => by
    show (if j % 3 = 0 then p (j / 3) else if j % 3 = 1 then q (j / 3) else r (j / 3)) = _
    rw [hp (j / 3) (by omega), hq (j / 3) (by omega), hr (j / 3) (by omega)]
theorem R3.new (w : World) (z0 z1 z2 : Value) (n T : Nat) : R3 (w.alloc (.cells (madeCells #[z0, z1, z2] (n * 3)) T)) w.heap.size T n (fun _ => z0) (fun _ => z1) (fun _ => z2) :=
  ⟨_, heap_alloc_new _ _, size_madeCells _ _, fun j hj => by
    rw [show (madeCells #[z0, z1, z2] (n * 3))[j]? = some (#[z0, z1, z2][j % 3]!) by simp [madeCells, hj]]
    rcases (by omega : j % 3 = 0 ∨ j % 3 = 1 ∨ j % 3 = 2) with h | h | h <;> simp [h]⟩
def RowC (w : World) (g n : Nat) (ch : Nat → ChV) : Prop := R3 w g 65 n (fun i => .int .i64 (ch i).t) (fun i => .int .i64 (ch i).l) (fun i => .slice (ch i).A (ch i).n (ch i).c)
def RowSt (w : World) (g n : Nat) (st : Nat → StV) : Prop := R3 w g 53 n (fun i => .int .i64 (st i).ow) (fun i => .int .i64 (st i).mrk) (fun i => .slice (st i).A (st i).n (st i).c)
def ch0 : ChV := ⟨0, 0, none, 0, 0, fun _ => 0, fun _ => 0, fun _ => 0⟩
def st0 : StV := ⟨0, 0, none, 0, 0, fun _ => ch0⟩
theorem RowC.put {w : World} {g n : Nat} {ch : Nat → ChV} (h : RowC w g n ch) (k : Nat) (v : ChV) :
    RowC (((w.setCell ⟨g, k * 3, none⟩ (.int .i64 v.t)).setCell ⟨g, k * 3 + 1, none⟩ (.int .i64 v.l)).setCell ⟨g, k * 3 + 2, none⟩ (.slice v.A v.n v.c)) g n (fun i => if i = k then v else ch i) :=
  (R3.put h k _ _ _).congr (fun i _ => by dsimp only; split <;> rfl) (fun i _ => by dsimp only; split <;> rfl) (fun i _ => by dsimp only; split <;> rfl)
theorem RowSt.put {w : World} {g n : Nat} {st : Nat → StV} (h : RowSt w g n st) (k : Nat) (v : StV) :
    RowSt (((w.setCell ⟨g, k * 3, none⟩ (.int .i64 v.ow)).setCell ⟨g, k * 3 + 1, none⟩ (.int .i64 v.mrk)).setCell ⟨g, k * 3 + 2, none⟩ (.slice v.A v.n v.c)) g n (fun i => if i = k then v else st i) :=
  (R3.put h k _ _ _).congr (fun i _ => by dsimp only; split <;> rfl) (fun i _ => by dsimp only; split <;> rfl) (fun i _ => by dsimp only; split <;> rfl)
theorem infoCh : (Tryz.prog.info? 65).map (fun i => (i.zero, i.size, i.bytes)) = some (some (.agg #[.int .i64 0, .int .i64 0, .slice none 0 0]), 3, 40) := by kernel_rfl
theorem infoSt : (Tryz.prog.info? 53).map (fun i => (i.zero, i.size, i.bytes)) = some (some (.agg #[.int .i64 0, .int .i64 0, .slice none 0 0]), 3, 40) := by kernel_rfl
theorem infoBr : (Tryz.prog.info? 74).map (fun i => (i.zero, i.size, i.bytes)) = some (some (.agg #[.int .i64 0, .int .i64 0, .int .i64 0]), 3, 24) := by kernel_rfl
theorem info_open {T : Nat} {z : Value} {s b : Nat} (h : (Tryz.prog.info? T).map (fun i => (i.zero, i.size, i.bytes)) = some (some z, s, b)) : ∃ i, Tryz.prog.info? T = some i ∧ i.zero = some z ∧ i.size = s ∧ i.bytes = b := by
  cases hi : Tryz.prog.info? T with
  | none => rw [hi] at h; cases h
  | some i =>
    rw [hi] at h
    simp only [Option.map_some, Option.some.injEq, Prod.mk.injEq] at h
    exact ⟨i, rfl, h.1, h.2.1, h.2.2⟩
theorem make_choices (n : Nat) (h : n ≤ 4000000) (w : World) :
    (Instr.makeSlice 51 (.int .i64 (n : Int)) (.int .i64 (n : Int))).run Tryz.prog w = .ok (.slice (some ⟨w.heap.size, 0, none⟩) n n) (w.alloc (.cells (madeCells #[.int .i64 0, .int .i64 0, .slice none 0 0] (n * 3)) 65)) := by
  obtain ⟨i, hi, hz, hs, hb⟩ := info_open infoCh
  have hr := run_make (P := Tryz.prog) w 51 65 i _ Tryz.underlying51 hi hz .i64 .i64 n n (by omega) (Int.le_refl _) (by rw [hb]; omega) (by omega)
  simp only [Int.toNat_natCast, hs] at hr
  rw [hr]
  rfl
theorem make_states (n : Nat) (h : n ≤ 4000000) (w : World) :
    (Instr.makeSlice 22 (.int .i64 (n : Int)) (.int .i64 (n : Int))).run Tryz.prog w = .ok (.slice (some ⟨w.heap.size, 0, none⟩) n n) (w.alloc (.cells (madeCells #[.int .i64 0, .int .i64 0, .slice none 0 0] (n * 3)) 53)) := by
  obtain ⟨i, hi, hz, hs, hb⟩ := info_open infoSt
  have hr := run_make (P := Tryz.prog) w 22 53 i _ Tryz.underlying22 hi hz .i64 .i64 n n (by omega) (Int.le_refl _) (by rw [hb]; omega) (by omega)
  simp only [Int.toNat_natCast, hs] at hr
  rw [hr]
  rfl
theorem RowC.new (w : World) (n : Nat) : RowC (w.alloc (.cells (madeCells #[.int .i64 0, .int .i64 0, .slice none 0 0] (n * 3)) 65)) w.heap.size n (fun _ => ch0) := R3.new w _ _ _ n _
theorem RowSt.new (w : World) (n : Nat) : RowSt (w.alloc (.cells (madeCells #[.int .i64 0, .int .i64 0, .slice none 0 0] (n * 3)) 53)) w.heap.size n (fun _ => st0) := R3.new w _ _ _ n _
theorem own_rows {w : World} {base T : Nat} {v : Value} {n : Nat} {p q r : Nat → Value} (h : w.ownsRow base T 3 v n (cells3 n p q r)) : ∃ A c, v = .slice A n c ∧ Rows3P (fun b => some b = v.ownBlock ∧ base ≤ b) w A n p q r := by
  rcases h.2 with ⟨rfl, rfl⟩ | ⟨g, cap, cur, rfl, hb, hg, -⟩
  · exact ⟨none, 0, rfl, fun h => absurd h (by omega)⟩
  · refine ⟨_, _, rfl, fun hn => ⟨g, 0, rfl, lt_of_heap hg, ⟨rfl, hb⟩, fun i hi => ?_⟩⟩
    have hc := World.ownsRow.cells h (g := g) rfl
    have hadd : ∀ j, (⟨g, 0, none⟩ : Addr).add j = ⟨g, j, none⟩ := fun j => by unfold Addr.add; split <;> simp_all
    have c0 := hc _ _ (cells3_at0 p q r hi)
    have c1 := hc _ _ (cells3_at1 p q r hi)
    have c2 := hc _ _ (cells3_at2 p q r hi)
    rw [hadd] at c0 c1 c2
    rw [Nat.zero_add]
    exact ⟨c0, c1, c2⟩
theorem run_push {w : World} {base t ty T bytes : Nat} {z : Value} (ht : Tryz.prog.underlying t = some (.slice T)) (hi : (Tryz.prog.info? T).map (fun i => (i.zero, i.size, i.bytes)) = some (some z, 3, bytes)) (hz : z.cells.size = 3) (hby : bytes ≤ 40)
    {v : Value} {n : Nat} {p q r : Nat → Value} (hown : w.ownsRow base T 3 v n (cells3 n p q r)) (hn : n ≤ 1000) (hbase : base ≤ w.heap.size) (e off c : Nat) (a1 a2 a3 : Value)
    (h1 : w.cell? ⟨e, off, none⟩ = some a1) (h2 : w.cell? ⟨e, off + 1, none⟩ = some a2) (h3 : w.cell? ⟨e, off + 2, none⟩ = some a3) (o1 : a1.oneCell' = true) (o2 : a2.oneCell' = true) (o3 : a3.oneCell' = true) :
    ∃ v' w', (Builtin.append_ #[t, t] ty #[v, .slice (some ⟨e, off, none⟩) 1 c]).run Tryz.prog w = .ok v' w' ∧ w'.ownsRow base T 3 v' (n + 1) (cells3 (n + 1) (fun i => if i = n then a1 else p i) (fun i => if i = n then a2 else q i) (fun i => if i = n then a3 else r i)) ∧
      w.grownBy w' v.ownBlock ∧ (v'.ownBlock = v.ownBlock ∨ v'.ownBlock = some w.heap.size) := by
  obtain ⟨i, hi, hzr, hs, hb⟩ := info_open hi
  obtain ⟨v', w', hr, ho, hg, -, hl⟩ := run_append_own_at (P := Tryz.prog) w base t ty T i z 3 bytes ht hi hzr hs hb hz (by omega) v n _ hown ⟨e, off, none⟩ 1 c [a1, a2, a3] rfl
    (fun j u hu => by
      have hadd : (⟨e, off, none⟩ : Addr).add j = ⟨e, off + j, none⟩ := by unfold Addr.add; split <;> simp_all
      rw [hadd]
      match j, hu with
      | 0, hu => exact h1.trans hu
      | 1, hu => exact h2.trans hu
      | 2, hu => exact h3.trans hu
      | j + 3, hu => simp at hu)
    (fun u hu => by
      simp only [List.mem_cons, List.not_mem_nil, or_false] at hu
      rcases hu with rfl | rfl | rfl
      · exact o1
      · exact o2
      · exact o3)
    (by unfold maxLen; omega) (by have : (n + 1) * bytes ≤ 1001 * 40 := Nat.mul_le_mul (by omega) hby
                                  omega) hbase
  refine ⟨v', w', hr, ?_, hg, hl⟩
  rw [cells3_snoc]
  simp only [if_true]
  rw [cells3_congr (p := fun i => if i = n then a1 else p i) (q := fun i => if i = n then a2 else q i) (r := fun i => if i = n then a3 else r i) (p' := p) (q' := q) (r' := r) (fun i hi => if_neg (by omega)) (fun i hi => if_neg (by omega)) (fun i hi => if_neg (by omega))]
  exact ho
theorem own_keep {w w' : World} {base T sz : Nat} {v : Value} {n : Nat} {xs : List Value} (h : w.ownsRow base T sz v n xs) (hb : ∀ g, g < w.heap.size → v.ownBlock = some g → w'.heap[g]? = w.heap[g]?) : w'.ownsRow base T sz v n xs := by
  refine ⟨h.1, ?_⟩
  rcases h.2 with hn | ⟨g, cap, cur, hv, hbg, hg, rest⟩
  · exact .inl hn
  · exact .inr ⟨g, cap, cur, hv, hbg, (hb g (lt_of_heap hg) (by rw [hv]; rfl)).trans hg, rest⟩
def OwnS (Q : Nat → Prop) (base : Nat) (w : World) (v : Value) (k : Nat) (st : Nat → StV) : Prop :=
  w.ownsRow base 53 3 v k (cells3 k (fun i => .int .i64 (st i).ow) (fun i => .int .i64 (st i).mrk) (fun i => .slice (st i).A (st i).n (st i).c)) ∧ ∀ i, i < k → StP (fun b => some b ≠ v.ownBlock ∧ Q b) w (st i)
def OwnC (base : Nat) (w : World) (v : Value) (k : Nat) (ch : Nat → ChV) : Prop :=
  w.ownsRow base 65 3 v k (cells3 k (fun i => .int .i64 (ch i).t) (fun i => .int .i64 (ch i).l) (fun i => .slice (ch i).A (ch i).n (ch i).c)) ∧ ∀ i, i < k → BrP (fun b => some b ≠ v.ownBlock ∧ base ≤ b) w (ch i)
theorem OwnS.nil (Q : Nat → Prop) (base : Nat) (w : World) (st : Nat → StV) : OwnS Q base w (.slice none 0 0) 0 st := ⟨World.ownsRow_nil w base _ 3, fun i hi => absurd hi (by omega)⟩
theorem OwnC.nil (base : Nat) (w : World) (ch : Nat → ChV) : OwnC base w (.slice none 0 0) 0 ch := ⟨World.ownsRow_nil w base _ 3, fun i hi => absurd hi (by omega)⟩
theorem OwnS.lt {Q : Nat → Prop} {base : Nat} {w : World} {v : Value} {k : Nat} {st : Nat → StV} (h : OwnS Q base w v k st) : ∀ b, v.ownBlock = some b → base ≤ b ∧ b < w.heap.size := World.ownsRow.lt h.1
theorem OwnC.lt {base : Nat} {w : World} {v : Value} {k : Nat} {ch : Nat → ChV} (h : OwnC base w v k ch) : ∀ b, v.ownBlock = some b → base ≤ b ∧ b < w.heap.size := World.ownsRow.lt h.1
theorem OwnS.stay {Q : Nat → Prop} {base : Nat} {w w' : World} {v : Value} {k : Nat} {st : Nat → StV} (h : OwnS Q base w v k st) (hs : w.heap.size ≤ w'.heap.size) (hb : ∀ b, b < w.heap.size → (base ≤ b ∨ Q b) → w'.heap[b]? = w.heap[b]?) : OwnS Q base w' v k st :=
  ⟨own_keep h.1 fun g hg hv => hb g hg (.inl (h.lt g hv).1), fun i hi => (h.2 i hi).stay hs fun b hlt hp => hb b hlt (.inr hp.2)⟩
theorem OwnC.stay {base : Nat} {w w' : World} {v : Value} {k : Nat} {ch : Nat → ChV} (h : OwnC base w v k ch) (hs : w.heap.size ≤ w'.heap.size) (hb : ∀ b, b < w.heap.size → base ≤ b → w'.heap[b]? = w.heap[b]?) : OwnC base w' v k ch :=
  ⟨own_keep h.1 fun g hg hv => hb g hg (h.lt g hv).1, fun i hi => (h.2 i hi).stay hs fun b hlt hp => hb b hlt hp.2⟩
theorem OwnS.keep {Q : Nat → Prop} {base : Nat} {w w' : World} {v : Value} {k : Nat} {st : Nat → StV} (h : OwnS Q base w v k st) (hb : Below w.heap.size w w') : OwnS Q base w' v k st := h.stay hb.size fun b hlt _ => hb.block b hlt
theorem OwnC.keep {base : Nat} {w w' : World} {v : Value} {k : Nat} {ch : Nat → ChV} (h : OwnC base w v k ch) (hb : Below w.heap.size w w') : OwnC base w' v k ch := h.stay hb.size fun b hlt _ => hb.block b hlt
theorem run_pushS {Q : Nat → Prop} {base : Nat} {w : World} {v : Value} {k : Nat} {st : Nat → StV} (H : OwnS Q base w v k st) (hk : k ≤ 1000) (hbase : base ≤ w.heap.size) (ty e off c : Nat) (nw : StV)
    (h1 : w.cell? ⟨e, off, none⟩ = some (.int .i64 nw.ow)) (h2 : w.cell? ⟨e, off + 1, none⟩ = some (.int .i64 nw.mrk)) (h3 : w.cell? ⟨e, off + 2, none⟩ = some (.slice nw.A nw.n nw.c)) (hsub : StP (fun b => some b ≠ v.ownBlock ∧ Q b) w nw) :
    ∃ v' w', (Builtin.append_ #[22, 22] ty #[v, .slice (some ⟨e, off, none⟩) 1 c]).run Tryz.prog w = .ok v' w' ∧ OwnS Q base w' v' (k + 1) (fun i => if i = k then nw else st i) ∧ w.grownBy w' v.ownBlock := by
  obtain ⟨v', w', hr, ho, hg, hl⟩ := run_push (ty := ty) Tryz.underlying22 infoSt rfl (by omega) H.1 hk hbase e off c _ _ _ h1 h2 h3 rfl rfl rfl
  have hst : ∀ s, StP (fun b => some b ≠ v.ownBlock ∧ Q b) w s → StP (fun b => some b ≠ v'.ownBlock ∧ Q b) w' s := fun s hs => by
    have hw : StP (fun b => (some b ≠ v.ownBlock ∧ Q b) ∧ b < w.heap.size) w' s :=
      (hs.imp (P' := fun b => (some b ≠ v.ownBlock ∧ Q b) ∧ b < w.heap.size) fun b hb hp => ⟨hp, hb⟩).stay hg.size (fun b hb hne => hg.block b hb hne.1.1)
    refine hw.imp fun b _ hp => ⟨?_, hp.1.2⟩
    rcases hl with e | e
    · rw [e]; exact hp.1.1
    · rw [e]; intro h; have := Option.some.inj h; omega
  refine ⟨v', w', hr, ⟨?_, fun i hi => ?_⟩, hg⟩
  · rw [cells3_congr (p' := fun i => if i = k then .int .i64 nw.ow else .int .i64 (st i).ow) (q' := fun i => if i = k then .int .i64 nw.mrk else .int .i64 (st i).mrk) (r' := fun i => if i = k then .slice nw.A nw.n nw.c else .slice (st i).A (st i).n (st i).c) (fun i _ => by dsimp only; split <;> rfl) (fun i _ => by dsimp only; split <;> rfl) (fun i _ => by dsimp only; split <;> rfl)]
    exact ho
  · dsimp only
    by_cases e : i = k
    · rw [if_pos e]; exact hst _ hsub
    · rw [if_neg e]; exact hst _ (H.2 i (by omega))
theorem run_pushC {base : Nat} {w : World} {v : Value} {k : Nat} {ch : Nat → ChV} (H : OwnC base w v k ch) (hk : k ≤ 1000) (hbase : base ≤ w.heap.size) (ty e off c : Nat) (nw : ChV)
    (h1 : w.cell? ⟨e, off, none⟩ = some (.int .i64 nw.t)) (h2 : w.cell? ⟨e, off + 1, none⟩ = some (.int .i64 nw.l)) (h3 : w.cell? ⟨e, off + 2, none⟩ = some (.slice nw.A nw.n nw.c)) (hsub : BrP (fun b => some b ≠ v.ownBlock ∧ base ≤ b) w nw) :
    ∃ v' w', (Builtin.append_ #[51, 51] ty #[v, .slice (some ⟨e, off, none⟩) 1 c]).run Tryz.prog w = .ok v' w' ∧ OwnC base w' v' (k + 1) (fun i => if i = k then nw else ch i) ∧ w.grownBy w' v.ownBlock := by
  obtain ⟨v', w', hr, ho, hg, hl⟩ := run_push (ty := ty) Tryz.underlying51 infoCh rfl (by omega) H.1 hk hbase e off c _ _ _ h1 h2 h3 rfl rfl rfl
  have hst : ∀ s, BrP (fun b => some b ≠ v.ownBlock ∧ base ≤ b) w s → BrP (fun b => some b ≠ v'.ownBlock ∧ base ≤ b) w' s := fun s hs => by
    have hw : BrP (fun b => (some b ≠ v.ownBlock ∧ base ≤ b) ∧ b < w.heap.size) w' s :=
      (hs.imp (P' := fun b => (some b ≠ v.ownBlock ∧ base ≤ b) ∧ b < w.heap.size) fun b hb hp => ⟨hp, hb⟩).stay hg.size (fun b hb hne => hg.block b hb hne.1.1)
    refine hw.imp fun b _ hp => ⟨?_, hp.1.2⟩
    rcases hl with e | e
    · rw [e]; exact hp.1.1
    · rw [e]; intro h; have := Option.some.inj h; omega
  refine ⟨v', w', hr, ⟨?_, fun i hi => ?_⟩, hg⟩
  · rw [cells3_congr (p' := fun i => if i = k then .int .i64 nw.t else .int .i64 (ch i).t) (q' := fun i => if i = k then .int .i64 nw.l else .int .i64 (ch i).l) (r' := fun i => if i = k then .slice nw.A nw.n nw.c else .slice (ch i).A (ch i).n (ch i).c) (fun i _ => by dsimp only; split <;> rfl) (fun i _ => by dsimp only; split <;> rfl) (fun i _ => by dsimp only; split <;> rfl)]
    exact ho
  · dsimp only
    by_cases e : i = k
    · rw [if_pos e]; exact hst _ hsub
    · rw [if_neg e]; exact hst _ (H.2 i (by omega))
theorem OwnC.stP {base : Nat} {w : World} {v : Value} {k : Nat} {ch : Nat → ChV} (h : OwnC base w v k ch) (ow mrk : Int) : ∃ A c, v = .slice A k c ∧ StP (fun b => base ≤ b) w ⟨ow, mrk, A, k, c, ch⟩ := by
  obtain ⟨A, c, e, hr⟩ := own_rows h.1
  exact ⟨A, c, e, hr.imp fun b _ hp => hp.2, fun j hj => (h.2 j hj).imp fun b _ hp => hp.2⟩
def Inc (n : Nat) (f : Nat → Int) : Prop := ∀ i j, i < j → j < n → f i < f j
theorem Inc.inj {n : Nat} {f : Nat → Int} (h : Inc n f) {i j : Nat} (hi : i < n) (hj : j < n) (e : f i = f j) : i = j := by
  rcases Nat.lt_trichotomy i j with h1 | h1 | h1
  · have := h i j h1 hj; omega
  · exact h1
  · have := h j i h1 hi; omega
theorem inc_same {n : Nat} {f g : Nat → Int} (hf : Inc n f) (hg : Inc n g) (h1 : ∀ i, i < n → ∃ j, j < n ∧ g j = f i) (h2 : ∀ i, i < n → ∃ j, j < n ∧ f j = g i) : ∀ i, i < n → f i = g i := by
  intro i
  induction i using Nat.strongRecOn with
  | ind i ih =>
    intro hi
    rcases Int.lt_trichotomy (f i) (g i) with h | h | h
    · obtain ⟨j, hj, e⟩ := h1 i hi
      rcases Nat.lt_or_ge j i with k | k
      · have h3 := ih j k hj
        have h4 := hf j i k hi
        omega
      · rcases Nat.eq_or_lt_of_le k with k2 | k2
        · subst k2; omega
        · have := hg i j k2 hj; omega
    · exact h
    · obtain ⟨j, hj, e⟩ := h2 i hi
      rcases Nat.lt_or_ge j i with k | k
      · have h3 := ih j k hj
        have h4 := hg j i k hi
        omega
      · rcases Nat.eq_or_lt_of_le k with k2 | k2
        · subst k2; omega
        · have := hf i j k2 hj; omega
def ReB (nm : Nat → Int) (h h' : ChV) (j i : Nat) : Prop := h'.tw i = nm (h.tw j).toNat ∧ h'.ct i = h.ct j ∧ h'.cl i = h.cl j
def ReC (nm : Nat → Int) (h h' : ChV) : Prop := h'.t = h.t ∧ h'.l = h.l ∧ h'.n = h.n ∧ Inc h'.n h'.tw ∧ (∀ j, j < h.n → ∃ i, i < h'.n ∧ ReB nm h h' j i) ∧ ∀ i, i < h'.n → ∃ j, j < h.n ∧ ReB nm h h' j i
def ReS (nm : Nat → Int) (s s' : StV) : Prop := s'.ow = s.ow ∧ s'.mrk = s.mrk ∧ s'.n = s.n ∧ ∀ j, j < s.n → ReC nm (s.ch j) (s'.ch j)
theorem ReC.uniq {nm : Nat → Int} {h h1 h2 : ChV} (hinj : ∀ i j, i < h.n → j < h.n → nm (h.tw i).toNat = nm (h.tw j).toNat → i = j) (H1 : ReC nm h h1) (H2 : ReC nm h h2) : ChLk h1 h2 := by
  obtain ⟨a1, a2, a3, a4, a5, a6⟩ := H1
  obtain ⟨b1, b2, b3, b4, b5, b6⟩ := H2
  have ht : ∀ i, i < h.n → h1.tw i = h2.tw i := by
    rw [a3] at a4
    rw [b3] at b4
    refine inc_same a4 b4 (fun i hi => ?_) (fun i hi => ?_)
    · obtain ⟨j, hj, e, -⟩ := a6 i (by omega)
      obtain ⟨k, hk, e2, -⟩ := b5 j hj
      exact ⟨k, by omega, by rw [e, e2]⟩
    · obtain ⟨j, hj, e, -⟩ := b6 i (by omega)
      obtain ⟨k, hk, e2, -⟩ := a5 j hj
      exact ⟨k, by omega, by rw [e, e2]⟩
  refine ⟨a1.trans b1.symm, a2.trans b2.symm, a3.trans b3.symm, fun i hi => ?_⟩
  have hi' : i < h.n := by omega
  obtain ⟨j, hj, e1, e2, e3⟩ := a6 i (by omega)
  obtain ⟨k, hk, f1, f2, f3⟩ := b6 i hi
  have := ht i hi'
  obtain rfl := hinj j k hj hk (by rw [← e1, ← f1, this])
  exact ⟨this, by rw [e2, f2], by rw [e3, f3]⟩
theorem ReS.uniq {nm : Nat → Int} {s s1 s2 : StV} (hinj : ∀ k, k < s.n → ∀ i j, i < (s.ch k).n → j < (s.ch k).n → nm ((s.ch k).tw i).toNat = nm ((s.ch k).tw j).toNat → i = j) (H1 : ReS nm s s1) (H2 : ReS nm s s2) : StL s1 s2 :=
  ⟨H1.1.trans H2.1.symm, H1.2.1.trans H2.2.1.symm, H1.2.2.1.trans H2.2.2.1.symm, fun j hj => ReC.uniq (hinj j (by have := H2.2.2.1; omega)) (H1.2.2.2 j (by have := H2.2.2.1; omega)) (H2.2.2.2 j (by have := H2.2.2.1; omega))⟩
theorem ReC.back {ns : Nat} {nm nm' : Nat → Int} {h h1 : ChV} (hin : ∀ j, j < h.n → 0 ≤ h.tw j ∧ (h.tw j).toNat < ns) (hback : ∀ x, x < ns → nm' (nm x).toNat = (x : Int)) (hinc : Inc h.n h.tw) (H : ReC nm h h1) : ReC nm' h1 h := by
  obtain ⟨a1, a2, a3, a4, a5, a6⟩ := H
  refine ⟨a1.symm, a2.symm, a3.symm, hinc, fun j hj => ?_, fun i hi => ?_⟩
  · obtain ⟨i, hi, e1, e2, e3⟩ := a6 j hj
    have h1 := hin i hi
    refine ⟨i, hi, ?_, e2.symm, e3.symm⟩
    rw [e1, hback _ h1.2]
    omega
  · obtain ⟨j, hj, e1, e2, e3⟩ := a5 i hi
    have h1 := hin i hi
    refine ⟨j, hj, ?_, e2.symm, e3.symm⟩
    rw [e1, hback _ h1.2]
    omega
theorem ReC.back_inj {ns : Nat} {nm nm' : Nat → Int} {h h1 : ChV} (hin : ∀ j, j < h.n → 0 ≤ h.tw j ∧ (h.tw j).toNat < ns) (hback : ∀ x, x < ns → nm' (nm x).toNat = (x : Int)) (hinc : Inc h.n h.tw) (H : ReC nm h h1) :
    ∀ i j, i < h1.n → j < h1.n → nm' (h1.tw i).toNat = nm' (h1.tw j).toNat → i = j := by
  obtain ⟨a1, a2, a3, a4, a5, a6⟩ := H
  intro i j hi hj e
  obtain ⟨a, ha, e1, -, -⟩ := a6 i hi
  obtain ⟨b, hb, e2, -, -⟩ := a6 j hj
  rw [e1, e2, hback _ (hin a ha).2, hback _ (hin b hb).2] at e
  have h3 := (hin a ha).1
  have h4 := (hin b hb).1
  obtain rfl := hinc.inj ha hb (by omega)
  exact a4.inj hi hj (e1.trans e2.symm)
theorem ReC.like {nm : Nat → Int} {h g h1 : ChV} (H : ReC nm h h1) (hl : ChLk h g) : ReC nm g h1 := by
  obtain ⟨a1, a2, a3, a4, a5, a6⟩ := H
  obtain ⟨b1, b2, b3, b4⟩ := hl
  refine ⟨a1.trans b1, a2.trans b2, a3.trans b3, a4, fun j hj => ?_, fun i hi => ?_⟩
  · obtain ⟨i, hi, e1, e2, e3⟩ := a5 j (by omega)
    obtain ⟨c1, c2, c3⟩ := b4 j hj
    exact ⟨i, hi, by rw [e1, c1], by rw [e2, c2], by rw [e3, c3]⟩
  · obtain ⟨j, hj, e1, e2, e3⟩ := a6 i hi
    have hj' : j < g.n := by omega
    obtain ⟨c1, c2, c3⟩ := b4 j hj'
    exact ⟨j, hj', by rw [e1, c1], by rw [e2, c2], by rw [e3, c3]⟩
theorem ReS.like {nm : Nat → Int} {s g s1 : StV} (H : ReS nm s s1) (hl : StL s g) : ReS nm g s1 :=
  ⟨H.1.trans hl.1, H.2.1.trans hl.2.1, H.2.2.1.trans hl.2.2.1, fun j hj => (H.2.2.2 j (by have := hl.2.2.1; omega)).like (hl.2.2.2 j hj)⟩
theorem bs_inc {ns n : Nat} {tw ct cl : Nat → Int} (h : bsB ns n tw ct cl = true) : Inc n tw ∧ ∀ j, j < n → 0 ≤ tw j ∧ (tw j).toNat < ns := by
  have hb := fun i hi => bsB_br h (i := i) hi
  have step : ∀ j, 0 < j → j < n → tw (j - 1) < tw j := fun j h0 hj => by
    have := hb j hj
    simp only [brB, Bool.and_eq_true, Bool.not_eq_true', decide_eq_false_iff_not, Bool.and_eq_false_iff] at this
    omega
  refine ⟨fun i j => ?_, fun j hj => ?_⟩
  · induction j with
    | zero => intro h1 _; omega
    | succ j ih =>
      intro h1 h2
      have h3 := step (j + 1) (by omega) h2
      rw [Nat.add_sub_cancel] at h3
      rcases Nat.eq_or_lt_of_le (Nat.le_of_lt_succ h1) with e | e
      · subst e; exact h3
      · have := ih e (by omega); omega
  · obtain ⟨h1, h2, -, -⟩ := brB_open (hb j hj)
    omega
end Go.Proofs.YtmfnpipmbpnfbaaGreatDoor
