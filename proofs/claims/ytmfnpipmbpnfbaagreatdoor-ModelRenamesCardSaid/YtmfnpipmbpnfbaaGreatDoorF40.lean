/- What the reference's Renamed has chosen so far: plain facts. -/
import Derived.Test.YtmfnpipmbpnfbaaGreatDoorF39
import Derived.Test.YtmfnpipmbpnfbaaGreatDoorF37

set_option maxRecDepth 100000
set_option maxHeartbeats 40000000
namespace Go.Proofs.YtmfnpipmbpnfbaaGreatDoor
open Go.RowKit
theorem pigeon : ∀ (m n : Nat) (f : Nat → Nat), (∀ i, i < n → f i < m) → (∀ i j, i < n → j < n → f i = f j → i = j) → n ≤ m
  | 0, n, f, hf, _ => by
    rcases Nat.eq_zero_or_pos n with h | h
    · omega
    · have := hf 0 h; omega
  | m + 1, 0, _, _, _ => Nat.zero_le _
  | m + 1, k + 1, f, hf, hi => by
    have key : ∀ i, i < k → f i = m → f k < m := fun i hik e => by
      have h1 := hf k (by omega)
      have h2 : f k ≠ m := fun e2 => by have := hi i k (by omega) (by omega) (by rw [e, e2]); omega
      omega
    have := pigeon m k (fun i => if f i = m then f k else f i)
      (fun i hik => by
        show (if f i = m then f k else f i) < m
        have h1 := hf i (by omega)
        split
        · exact key i hik (by assumption)
        · omega)
      (fun i j hik hjk e => by
        have e' : (if f i = m then f k else f i) = (if f j = m then f k else f j) := e
        split at e' <;> split at e'
        · exact hi i j (by omega) (by omega) (by omega)
        · have := hi k j (by omega) (by omega) e'; omega
        · have := hi i k (by omega) (by omega) e'; omega
        · exact hi i j (by omega) (by omega) e')
    omega
def Sel (nm : Nat → Int) (h : ChV) (i q : Nat) (h' : ChV) : Prop :=
  h'.t = h.t ∧ h'.l = h.l ∧ Inc h'.n h'.tw ∧ (∀ j, j < h.n → (nm (h.tw j).toNat < (i : Int) ∨ (nm (h.tw j).toNat = (i : Int) ∧ j < q)) → ∃ a, a < h'.n ∧ ReB nm h h' j a) ∧
    ∀ a, a < h'.n → ∃ j, j < h.n ∧ ReB nm h h' j a ∧ (nm (h.tw j).toNat < (i : Int) ∨ (nm (h.tw j).toNat = (i : Int) ∧ j < q))
theorem Sel.zero {nm : Nat → Int} {h : ChV} (h0 : ∀ j, j < h.n → 0 ≤ nm (h.tw j).toNat) (A : Option Addr) (c : Nat) (tw ct cl : Nat → Int) : Sel nm h 0 0 ⟨h.t, h.l, A, 0, c, tw, ct, cl⟩ :=
  ⟨rfl, rfl, fun _ _ _ hj => absurd hj (by show ¬ _ < 0; omega), fun j hj hh => by have := h0 j hj; omega, fun a ha => absurd ha (by show ¬ a < 0; omega)⟩
theorem Sel.next {nm : Nat → Int} {h h' : ChV} {i : Nat} (H : Sel nm h i h.n h') : Sel nm h (i + 1) 0 h' := by
  obtain ⟨a1, a2, a3, a4, a5⟩ := H
  refine ⟨a1, a2, a3, fun j hj hh => a4 j hj (by omega), fun a ha => ?_⟩
  obtain ⟨j, hj, hr, hh⟩ := a5 a ha
  exact ⟨j, hj, hr, by omega⟩
theorem Sel.skip {nm : Nat → Int} {h h' : ChV} {i q : Nat} (H : Sel nm h i q h') (hq : nm (h.tw q).toNat ≠ (i : Int)) : Sel nm h i (q + 1) h' := by
  obtain ⟨a1, a2, a3, a4, a5⟩ := H
  refine ⟨a1, a2, a3, fun j hj hh => a4 j hj ?_, fun a ha => ?_⟩
  · rcases hh with hh | ⟨hh, hl⟩
    · exact .inl hh
    · rcases Nat.lt_or_ge j q with r | r
      · exact .inr ⟨hh, r⟩
      · obtain rfl : j = q := by omega
        exact absurd hh hq
  · obtain ⟨j, hj, hr, hh⟩ := a5 a ha
    exact ⟨j, hj, hr, by omega⟩
theorem Sel.push {nm : Nat → Int} {h h' : ChV} {i q : Nat} (H : Sel nm h i q h') (hq : q < h.n) (e : nm (h.tw q).toNat = (i : Int)) (hinj : ∀ a b, a < h.n → b < h.n → nm (h.tw a).toNat = nm (h.tw b).toNat → a = b) (A : Option Addr) (c : Nat) :
    Sel nm h i (q + 1) ⟨h'.t, h'.l, A, h'.n + 1, c, fun a => if a = h'.n then (i : Int) else h'.tw a, fun a => if a = h'.n then h.ct q else h'.ct a, fun a => if a = h'.n then h.cl q else h'.cl a⟩ := by
  obtain ⟨a1, a2, a3, a4, a5⟩ := H
  have less : ∀ a, a < h'.n → h'.tw a < (i : Int) := fun a ha => by
    obtain ⟨j, hj, ⟨e1, -, -⟩, hh⟩ := a5 a ha
    rw [e1]
    rcases hh with hh | ⟨hh, hl⟩
    · exact hh
    · have := hinj j q hj hq (by rw [hh, e]); omega
  refine ⟨a1, a2, fun a b hab hb => ?_, fun j hj hh => ?_, fun a ha => ?_⟩
  · have hb' : b < h'.n + 1 := hb
    have ha' : a ≠ h'.n := by omega
    show (if a = h'.n then (i : Int) else h'.tw a) < (if b = h'.n then (i : Int) else h'.tw b)
    rw [if_neg ha']
    by_cases eb : b = h'.n
    · rw [if_pos eb]; exact less a (by omega)
    · rw [if_neg eb]; exact a3 a b hab (by omega)
  · by_cases ej : j = q
    · subst ej
      refine ⟨h'.n, Nat.lt_succ_self _, ?_, ?_, ?_⟩
      · show (if h'.n = h'.n then (i : Int) else h'.tw h'.n) = _; rw [if_pos rfl, e]
      · show (if h'.n = h'.n then h.ct j else h'.ct h'.n) = _; rw [if_pos rfl]
      · show (if h'.n = h'.n then h.cl j else h'.cl h'.n) = _; rw [if_pos rfl]
    · obtain ⟨a, ha, e1, e2, e3⟩ := a4 j hj (by omega)
      have hne : a ≠ h'.n := by omega
      refine ⟨a, Nat.lt_succ_of_lt ha, ?_, ?_, ?_⟩
      · show (if a = h'.n then (i : Int) else h'.tw a) = _; rw [if_neg hne, e1]
      · show (if a = h'.n then h.ct q else h'.ct a) = _; rw [if_neg hne, e2]
      · show (if a = h'.n then h.cl q else h'.cl a) = _; rw [if_neg hne, e3]
  · have ha' : a < h'.n + 1 := ha
    by_cases ea : a = h'.n
    · subst ea
      refine ⟨q, hq, ⟨?_, ?_, ?_⟩, .inr ⟨e, Nat.lt_succ_self _⟩⟩
      · show (if h'.n = h'.n then (i : Int) else h'.tw h'.n) = _; rw [if_pos rfl, e]
      · show (if h'.n = h'.n then h.ct q else h'.ct h'.n) = _; rw [if_pos rfl]
      · show (if h'.n = h'.n then h.cl q else h'.cl h'.n) = _; rw [if_pos rfl]
    · obtain ⟨j, hj, ⟨e1, e2, e3⟩, hh⟩ := a5 a (by omega)
      refine ⟨j, hj, ⟨?_, ?_, ?_⟩, by omega⟩
      · show (if a = h'.n then (i : Int) else h'.tw a) = _; rw [if_neg ea, e1]
      · show (if a = h'.n then h.ct q else h'.ct a) = _; rw [if_neg ea, e2]
      · show (if a = h'.n then h.cl q else h'.cl a) = _; rw [if_neg ea, e3]
theorem Sel.le {nm : Nat → Int} {h h' : ChV} {i q : Nat} (H : Sel nm h i q h') : h'.n ≤ h.n := by
  obtain ⟨-, -, a3, -, a5⟩ := H
  have hx : ∀ a, ∃ j, a < h'.n → j < h.n ∧ ReB nm h h' j a := fun a => by
    by_cases ha : a < h'.n
    · obtain ⟨j, hj, hr, -⟩ := a5 a ha
      exact ⟨j, fun _ => ⟨hj, hr⟩⟩
    · exact ⟨0, fun h => absurd h ha⟩
  obtain ⟨f, hf⟩ := Classical.skolem.1 hx
  refine pigeon h.n h'.n f (fun a ha => (hf a ha).1) (fun a b ha hb e => ?_)
  have e1 := (hf a ha).2.1
  have e2 := (hf b hb).2.1
  exact a3.inj ha hb (by rw [e1, e2, e])
theorem Sel.done {nm : Nat → Int} {h h' : ChV} {ns : Nat} (H : Sel nm h ns 0 h') (hlt : ∀ j, j < h.n → nm (h.tw j).toNat < (ns : Int)) (hinj : ∀ a b, a < h.n → b < h.n → nm (h.tw a).toNat = nm (h.tw b).toNat → a = b) : ReC nm h h' := by
  have hle := H.le
  obtain ⟨a1, a2, a3, a4, a5⟩ := H
  have hx : ∀ j, ∃ a, j < h.n → a < h'.n ∧ ReB nm h h' j a := fun j => by
    by_cases hj : j < h.n
    · obtain ⟨a, ha, hr⟩ := a4 j hj (.inl (hlt j hj))
      exact ⟨a, fun _ => ⟨ha, hr⟩⟩
    · exact ⟨0, fun h => absurd h hj⟩
  obtain ⟨f, hf⟩ := Classical.skolem.1 hx
  have hge : h.n ≤ h'.n := pigeon h'.n h.n f (fun a ha => (hf a ha).1) (fun a b ha hb e => by
    have e1 := (hf a ha).2.1
    have e2 := (hf b hb).2.1
    rw [e] at e1
    exact hinj a b ha hb (by rw [← e1, ← e2]))
  refine ⟨a1, a2, by omega, a3, fun j hj => ⟨f j, (hf j hj).1, (hf j hj).2⟩, fun a ha => ?_⟩
  obtain ⟨j, hj, hr, -⟩ := a5 a ha
  exact ⟨j, hj, hr⟩
def OwnB (base : Nat) (w : World) (v : Value) (h : ChV) : Prop :=
  w.ownsRow base 74 3 v h.n (cells3 h.n (fun i => .int .i64 (h.tw i)) (fun i => .int .i64 (h.ct i)) (fun i => .int .i64 (h.cl i)))
theorem OwnB.nil (base : Nat) (w : World) (t l : Int) (A : Option Addr) (c : Nat) (tw ct cl : Nat → Int) : OwnB base w (.slice none 0 0) ⟨t, l, A, 0, c, tw, ct, cl⟩ := World.ownsRow_nil w base _ 3
theorem OwnB.lt {base : Nat} {w : World} {v : Value} {h : ChV} (H : OwnB base w v h) : ∀ b, v.ownBlock = some b → base ≤ b ∧ b < w.heap.size := World.ownsRow.lt H
theorem OwnB.stay {base : Nat} {w w' : World} {v : Value} {h : ChV} (H : OwnB base w v h) (hb : ∀ b, b < w.heap.size → base ≤ b → w'.heap[b]? = w.heap[b]?) : OwnB base w' v h := own_keep H fun g hg hv => hb g hg (World.ownsRow.lt H g hv).1
theorem OwnB.keep {base : Nat} {w w' : World} {v : Value} {h : ChV} (H : OwnB base w v h) (hb : Below w.heap.size w w') : OwnB base w' v h := H.stay fun b hlt _ => hb.block b hlt
theorem OwnB.br {base : Nat} {w : World} {v : Value} {h : ChV} (H : OwnB base w v h) : ∃ A c, v = .slice A h.n c ∧ BrP (fun b => some b = v.ownBlock ∧ base ≤ b) w ⟨h.t, h.l, A, h.n, c, h.tw, h.ct, h.cl⟩ := own_rows H
theorem run_pushB {base : Nat} {w : World} {v : Value} {h : ChV} (H : OwnB base w v h) (hk : h.n ≤ 1000) (hbase : base ≤ w.heap.size) (ty e off c : Nat) (x y z : Int)
    (h1 : w.cell? ⟨e, off, none⟩ = some (.int .i64 x)) (h2 : w.cell? ⟨e, off + 1, none⟩ = some (.int .i64 y)) (h3 : w.cell? ⟨e, off + 2, none⟩ = some (.int .i64 z)) :
    ∃ v' w', (Builtin.append_ #[63, 63] ty #[v, .slice (some ⟨e, off, none⟩) 1 c]).run Tryz.prog w = .ok v' w' ∧
      OwnB base w' v' ⟨h.t, h.l, h.A, h.n + 1, h.c, fun i => if i = h.n then x else h.tw i, fun i => if i = h.n then y else h.ct i, fun i => if i = h.n then z else h.cl i⟩ ∧ w.grownBy w' v.ownBlock := by
  obtain ⟨v', w', hr, ho, hg, -⟩ := run_push (ty := ty) Tryz.underlying63 infoBr rfl (by omega) H hk hbase e off c _ _ _ h1 h2 h3 rfl rfl rfl
  refine ⟨v', w', hr, ?_, hg⟩
  unfold OwnB
  rw [cells3_congr (p' := fun i => if i = h.n then .int .i64 x else .int .i64 (h.tw i)) (q' := fun i => if i = h.n then .int .i64 y else .int .i64 (h.ct i)) (r' := fun i => if i = h.n then .int .i64 z else .int .i64 (h.cl i)) (fun i _ => by dsimp only; split <;> rfl) (fun i _ => by dsimp only; split <;> rfl) (fun i _ => by dsimp only; split <;> rfl)]
  exact ho
def RowZ (w : World) (g n : Nat) (f : Nat → Int) : Prop := w.rowIs g 3 n (fun j => .int .i64 (f j))
theorem RowZ.cell {w : World} {g n : Nat} {f : Nat → Int} (h : RowZ w g n f) {i : Nat} (hi : i < n) : w.cell? ⟨g, i, none⟩ = some (.int .i64 (f i)) := World.rowIs.cell h hi
theorem RowZ.frozen {w : World} {g n : Nat} {f : Nat → Int} (h : RowZ w g n f) (i : Nat) : w.frozen? ⟨g, i, none⟩ = false := World.rowIs.frozen h i
theorem RowZ.lt {w : World} {g n : Nat} {f : Nat → Int} (h : RowZ w g n f) : g < w.heap.size := World.rowIs.lt h
theorem RowZ.set {w : World} {g n : Nat} {f : Nat → Int} (h : RowZ w g n f) (i : Nat) (x : Int) : RowZ (w.setCell ⟨g, i, none⟩ (.int .i64 x)) g n (fun j => if j = i then x else f j) := by
  refine World.rowIs.congr (World.rowIs.set h i _) fun j _ => ?_
  show (if j = i then Value.int .i64 x else Value.int .i64 (f j)) = Value.int .i64 (if j = i then x else f j)
  split <;> rfl
theorem RowZ.new (w : World) (n : Nat) : RowZ (w.alloc (.cells (madeCells #[.int .i64 0] n) 3)) w.heap.size n (fun _ => 0) := World.rowIs_made w _ n 3
theorem RowZ.lin {w : World} {g n : Nat} {f : Nat → Int} (h : RowZ w g n f) : Lin w (some ⟨g, 0, none⟩) n f :=
  fun _ => ⟨g, 0, rfl, h.lt, fun i hi => by rw [Nat.zero_add]; exact h.cell (by omega)⟩
theorem RowZ.block {w w' : World} {g n : Nat} {f : Nat → Int} (h : RowZ w g n f) (e : w'.heap[g]? = w.heap[g]?) : RowZ w' g n f := World.rowIs.of_block h e
theorem RowZ.keep {w w' : World} {g n : Nat} {f : Nat → Int} (h : RowZ w g n f) (hb : Below w.heap.size w w') : RowZ w' g n f := h.block (hb.block g h.lt)
theorem infoInt : (Tryz.prog.info? 3).map (fun i => (i.zero, i.size, i.bytes)) = some (some (.int .i64 0), 1, 8) := by kernel_rfl
theorem make_ints (n : Nat) (h : n ≤ 4000000) (w : World) :
    (Instr.makeSlice 25 (.int .i64 (n : Int)) (.int .i64 (n : Int))).run Tryz.prog w = .ok (.slice (some ⟨w.heap.size, 0, none⟩) n n) (w.alloc (.cells (madeCells #[.int .i64 0] n) 3)) :=
  run_make_row' (P := Tryz.prog) 25 3 (.int .i64 0) 8 Tryz.underlying25 infoInt rfl .i64 .i64 n (by omega) (by omega) w
end Go.Proofs.YtmfnpipmbpnfbaaGreatDoor
