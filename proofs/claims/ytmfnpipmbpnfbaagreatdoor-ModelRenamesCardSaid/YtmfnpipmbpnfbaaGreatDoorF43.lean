/- Models that are returned. -/
import Derived.Test.YtmfnpipmbpnfbaaGreatDoorF39
import Derived.Test.YtmfnpipmbpnfbaaGreatDoorF42

set_option maxRecDepth 100000
set_option maxHeartbeats 40000000
namespace Go.Proofs.YtmfnpipmbpnfbaaGreatDoor
open Go.RowKit
def LstP (P : Nat → Prop) (w : World) (A : Option Addr) (n : Nat) (st : Nat → StV) : Prop :=
  Rows3P P w A n (fun i => .int .i64 (st i).ow) (fun i => .int .i64 (st i).mrk) (fun i => .slice (st i).A (st i).n (st i).c) ∧ ∀ i, i < n → StP P w (st i)
theorem LstP.to {P : Nat → Prop} {w : World} {A : Option Addr} {n : Nat} {st : Nat → StV} (h : LstP P w A n st) : Lst w A n st := ⟨h.1.to, fun i hi => (h.2 i hi).to⟩
theorem LstP.stay {P : Nat → Prop} {w w' : World} {A : Option Addr} {n : Nat} {st : Nat → StV} (h : LstP P w A n st) (hs : w.heap.size ≤ w'.heap.size) (hb : ∀ b, b < w.heap.size → P b → w'.heap[b]? = w.heap[b]?) : LstP P w' A n st := ⟨h.1.stay hs hb, fun i hi => (h.2 i hi).stay hs hb⟩
theorem LstP.imp {P P' : Nat → Prop} {w : World} {A : Option Addr} {n : Nat} {st : Nat → StV} (h : LstP P w A n st) (hP : ∀ b, b < w.heap.size → P b → P' b) : LstP P' w A n st := ⟨h.1.imp hP, fun i hi => (h.2 i hi).imp hP⟩
def B1 (w : World) (g T : Nat) (v : Value) : Prop := w.heap[g]? = some (.cells #[v] T (0, 0))
theorem B1.lt {w : World} {g T : Nat} {v : Value} (h : B1 w g T v) : g < w.heap.size := lt_of_heap h
theorem B1.block {w w' : World} {g T : Nat} {v : Value} (h : B1 w g T v) (hb : w'.heap[g]? = w.heap[g]?) : B1 w' g T v := hb.trans h
theorem B1.keep {w w' : World} {g T : Nat} {v : Value} (h : B1 w g T v) (hb : Below w.heap.size w w') : B1 w' g T v := h.block (hb.block g h.lt)
theorem B1.out {w : World} {g T : Nat} {v : Value} (h : B1 w g T v) : w.cell? ⟨g, 0, none⟩ = some v := by
  have hh : w.heap[g]? = some (.cells #[v] T (0, 0)) := h
  simp [World.cell?, hh]
theorem B1.frz {w : World} {g T : Nat} {v : Value} (h : B1 w g T v) : w.frozen? ⟨g, 0, none⟩ = false := by
  have hh : w.heap[g]? = some (.cells #[v] T (0, 0)) := h
  simp [World.frozen?, hh]
theorem B1.put {w : World} {g T : Nat} {v : Value} (h : B1 w g T v) (u : Value) : B1 (w.setCell ⟨g, 0, none⟩ u) g T u := by
  have hh : w.heap[g]? = some (.cells #[v] T (0, 0)) := h
  unfold B1
  simp [World.setCell, Array.getElem?_modify, hh]
theorem B1.new (w : World) (T : Nat) (v : Value) : B1 (w.alloc (.cells #[v] T)) w.heap.size T v := heap_alloc_new w _
theorem mo_small {n : Nat} {st : Nat → StV} (h : moB n st = true) : n ≤ 40 ∧ (∀ i, i < n → (st i).n ≤ 8) ∧ ∀ i j, i < n → j < (st i).n → ((st i).ch j).n ≤ 8 :=
  ⟨(moB_n h).2, fun _ hi => (stB_n (moB_st h hi)).2.1, fun _ _ hi hj => (bsB_n (chB_bs (stB_ch (moB_st h hi) hj))).2⟩
theorem putM {w wx : World} {A : Option Addr} {n c g lo : Nat} {st : Nat → StV} {v : Value} (hB : Below w.heap.size w wx) (hg : w.heap.size ≤ g) (hlo : g < lo) (hb : B1 wx g 24 v) (hL : LstP (fun b => lo ≤ b) wx A n st) :
    B1 (wx.setCell ⟨g, 0, none⟩ (.slice A n c)) g 24 (.slice A n c) ∧ Lst (wx.setCell ⟨g, 0, none⟩ (.slice A n c)) A n st ∧ Below w.heap.size w (wx.setCell ⟨g, 0, none⟩ (.slice A n c)) :=
  ⟨hb.put _, (hL.stay (w' := wx.setCell ⟨g, 0, none⟩ (.slice A n c)) (by simp [World.setCell]) fun b _ hp => Below.heap_setCell _ ⟨g, 0, none⟩ _ b (by have hp' : lo ≤ b := hp; show b ≠ g; omega)).to, hB.setCell (p := ⟨g, 0, none⟩) hg _⟩
theorem alloc_3 {w Z : World} {T T' T'' : Nat} {a b c : Value} (h : ((w.alloc (.cells #[a] T)).alloc (.cells #[b] T')).alloc (.cells #[c] T'') = Z) : Below w.heap.size w Z ∧ B1 Z w.heap.size T a ∧ B1 Z (w.heap.size + 1) T' b ∧ B1 Z (w.heap.size + 2) T'' c := by
  have e1 : (w.alloc (.cells #[a] T)).heap.size = w.heap.size + 1 := by simp
  have e2 : ((w.alloc (.cells #[a] T)).alloc (.cells #[b] T')).heap.size = w.heap.size + 2 := by simp
  have h3 := B1.new ((w.alloc (.cells #[a] T)).alloc (.cells #[b] T')) T'' c
  rw [e2, h] at h3
  have h2 := (B1.new (w.alloc (.cells #[a] T)) T' b).keep (below_alloc _ (.cells #[c] T''))
  rw [e1, h] at h2
  have h1 := ((B1.new w T a).keep (below_alloc _ (.cells #[b] T'))).keep (below_alloc _ (.cells #[c] T''))
  rw [h] at h1
  have hb := (below_alloc w (.cells #[a] T)).trans (((below_alloc _ (.cells #[b] T')).trans ((below_alloc _ (.cells #[c] T'')).mono (below_alloc _ _).size)).mono (below_alloc _ _).size)
  rw [h] at hb
  exact ⟨hb, h1, h2, h3⟩
theorem B1.mbx {w : World} {g T : Nat} {A : Option Addr} {n c : Nat} (h : B1 w g T (.slice A n c)) : MBx w g A n c := ⟨h.out, h.lt⟩
theorem wpList_app {ops : Array Oper} {rest : List Oper} {o : Oper} {a : Act} {Q : Exit → Act → World → Prop} {W W' : World} (hgd : o.guard = none) (s x : Operand) (t : TypeId)
    (ho : o.op = .call { callee := .builtin .append, args := #[s, x], argTypes := #[t, t] }) (v1 v2 r : Value) (hs : a.eval s = v1) (hx : a.eval x = v2)
    (hr : (Builtin.append_ #[t, t] o.type #[v1, v2]).run Tryz.prog W = .ok r W') (H : wpList Tryz.prog ops Q rest (a.put o.dst r) W') : wpList Tryz.prog ops Q (o :: rest) a W :=
  wpList_plain hgd fun K hK => by
    unfold Oper.wp execOp
    simp only [ho, resolve, invoke, builtin, Sem.run_bind, Sem.run_pure, Result.andThen_ok, List.map_toArray, List.map_cons, List.map_nil, hs, hx, hr]
    exact hK _ _ H
theorem below_grown {base : Nat} {Z wx wy : World} {g : Option Nat} (h : Below base Z wx) (hg : wx.grownBy wy g) (hb : ∀ b, g = some b → base ≤ b) (hZ : base ≤ Z.heap.size) : Below base Z wy :=
  h.trans ⟨hg.os, hg.tape, hg.output, hg.size, fun k hk => hg.block k (Nat.lt_of_lt_of_le hk (Nat.le_trans hZ h.size)) fun e => by have := hb k e.symm; omega⟩
end Go.Proofs.YtmfnpipmbpnfbaaGreatDoor
