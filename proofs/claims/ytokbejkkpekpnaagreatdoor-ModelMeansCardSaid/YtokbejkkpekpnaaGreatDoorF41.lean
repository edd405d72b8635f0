/- A model that is written state by state: plain facts. -/
import Derived.Test.YtokbejkkpekpnaaGreatDoorF39
import Derived.Test.YtokbejkkpekpnaaGreatDoorF40
import Derived.Test.YtokbejkkpekpnaaGreatDoorF21

set_option maxRecDepth 100000
set_option maxHeartbeats 40000000
namespace Go.Proofs.YtokbejkkpekpnaaGreatDoor
open Go.RowKit
theorem far_cells {w : World} {g : Nat} {i j k : Nat} {a b c : Value} {b' : Nat} (h : b' ≠ g) : (((w.setCell ⟨g, i, none⟩ a).setCell ⟨g, j, none⟩ b).setCell ⟨g, k, none⟩ c).heap[b']? = w.heap[b']? :=
  ((Below.heap_setCell _ ⟨g, k, none⟩ c b' h).trans (Below.heap_setCell _ ⟨g, j, none⟩ b b' h)).trans (Below.heap_setCell _ ⟨g, i, none⟩ a b' h)
theorem size_cells {w : World} {g : Nat} {i j k : Nat} {a b c : Value} : (((w.setCell ⟨g, i, none⟩ a).setCell ⟨g, j, none⟩ b).setCell ⟨g, k, none⟩ c).heap.size = w.heap.size := by simp [World.setCell]
def ChgI (w : World) (C n k : Nat) (src : Nat → ChV) : Prop := ∃ ch, RowC w C n ch ∧ ∀ j, j < k → ChLk (ch j) (src j) ∧ BrP (fun b => C < b) w (ch j)
theorem ChgI.lt {w : World} {C n k : Nat} {src : Nat → ChV} (h : ChgI w C n k src) : C < w.heap.size := by obtain ⟨ch, hr, -⟩ := h; exact R3.lt hr
theorem ChgI.keep {w w' : World} {C n k : Nat} {src : Nat → ChV} (h : ChgI w C n k src) (hb : Below w.heap.size w w') : ChgI w' C n k src := by
  obtain ⟨ch, hr, hc⟩ := h
  exact ⟨ch, R3.keep hr hb, fun j hj => ⟨(hc j hj).1, (hc j hj).2.stay hb.size fun b hlt _ => hb.block b hlt⟩⟩
theorem ChgI.new (w : World) (n : Nat) (src : Nat → ChV) : ChgI (w.alloc (.cells (madeCells #[.int .i64 0, .int .i64 0, .slice none 0 0] (n * 3)) 65)) w.heap.size n 0 src := ⟨_, RowC.new w n, fun j hj => absurd hj (by omega)⟩
theorem ChgI.step {w : World} {C n k : Nat} {src : Nat → ChV} (h : ChgI w C n k src) (v : ChV) (hv : ChLk v (src k)) (hb : BrP (fun b => C < b) w v) :
    ChgI (((w.setCell ⟨C, k * 3, none⟩ (.int .i64 v.t)).setCell ⟨C, k * 3 + 1, none⟩ (.int .i64 v.l)).setCell ⟨C, k * 3 + 2, none⟩ (.slice v.A v.n v.c)) C n (k + 1) src := by
  obtain ⟨ch, hr, hc⟩ := h
  refine ⟨_, RowC.put hr k v, fun j hj => ?_⟩
  have st : ∀ u : ChV, BrP (fun b => C < b) w u → BrP (fun b => C < b) (((w.setCell ⟨C, k * 3, none⟩ (.int .i64 v.t)).setCell ⟨C, k * 3 + 1, none⟩ (.int .i64 v.l)).setCell ⟨C, k * 3 + 2, none⟩ (.slice v.A v.n v.c)) u := fun u hu =>
    hu.stay (Nat.le_of_eq size_cells.symm) fun b _ hlt => far_cells (Nat.ne_of_gt hlt)
  by_cases e : j = k
  · rw [if_pos e, e]; exact ⟨hv, st _ hb⟩
  · rw [if_neg e]; exact ⟨(hc j (by omega)).1, st _ (hc j (by omega)).2⟩
theorem ChgI.done {w : World} {C n S : Nat} {src : Nat → ChV} (h : ChgI w C n n src) (ow mrk : Int) (hS : S < C) : ∃ s : StV, s.ow = ow ∧ s.mrk = mrk ∧ s.A = some ⟨C, 0, none⟩ ∧ s.n = n ∧ s.c = n ∧ StP (fun b => S < b) w s ∧ ∀ j, j < n → ChLk (s.ch j) (src j) := by
  obtain ⟨ch, hr, hc⟩ := h
  exact ⟨⟨ow, mrk, some ⟨C, 0, none⟩, n, n, ch⟩, rfl, rfl, rfl, rfl, rfl, ⟨R3.rows hr hS, fun j hj => (hc j hj).2.imp fun b _ hlt => Nat.lt_trans hS hlt⟩, fun j hj => (hc j hj).1⟩
def ChgO (w : World) (S n k : Nat) (tg : Nat → StV) : Prop := ∃ st, RowSt w S n st ∧ ∀ j, j < k → StL (st j) (tg j) ∧ StP (fun b => S < b) w (st j)
theorem ChgO.lt {w : World} {S n k : Nat} {tg : Nat → StV} (h : ChgO w S n k tg) : S < w.heap.size := by obtain ⟨st, hr, -⟩ := h; exact R3.lt hr
theorem ChgO.keep {w w' : World} {S n k : Nat} {tg : Nat → StV} (h : ChgO w S n k tg) (hb : Below w.heap.size w w') : ChgO w' S n k tg := by
  obtain ⟨st, hr, hc⟩ := h
  exact ⟨st, R3.keep hr hb, fun j hj => ⟨(hc j hj).1, (hc j hj).2.stay hb.size fun b hlt _ => hb.block b hlt⟩⟩
theorem ChgO.new (w : World) (n : Nat) (tg : Nat → StV) : ChgO (w.alloc (.cells (madeCells #[.int .i64 0, .int .i64 0, .slice none 0 0] (n * 3)) 53)) w.heap.size n 0 tg := ⟨_, RowSt.new w n, fun j hj => absurd hj (by omega)⟩
theorem ChgO.step {w : World} {S n k : Nat} {tg : Nat → StV} (h : ChgO w S n k tg) (v : StV) (hv : StL v (tg k)) (hb : StP (fun b => S < b) w v) :
    ChgO (((w.setCell ⟨S, k * 3, none⟩ (.int .i64 v.ow)).setCell ⟨S, k * 3 + 1, none⟩ (.int .i64 v.mrk)).setCell ⟨S, k * 3 + 2, none⟩ (.slice v.A v.n v.c)) S n (k + 1) tg := by
  obtain ⟨st, hr, hc⟩ := h
  refine ⟨_, RowSt.put hr k v, fun j hj => ?_⟩
  have sy : ∀ u : StV, StP (fun b => S < b) w u → StP (fun b => S < b) (((w.setCell ⟨S, k * 3, none⟩ (.int .i64 v.ow)).setCell ⟨S, k * 3 + 1, none⟩ (.int .i64 v.mrk)).setCell ⟨S, k * 3 + 2, none⟩ (.slice v.A v.n v.c)) u := fun u hu =>
    hu.stay (Nat.le_of_eq size_cells.symm) fun b _ hlt => far_cells (Nat.ne_of_gt hlt)
  by_cases e : j = k
  · rw [if_pos e, e]; exact ⟨hv, sy _ hb⟩
  · rw [if_neg e]; exact ⟨(hc j (by omega)).1, sy _ (hc j (by omega)).2⟩
section
variable {P : Program} {ops : Array Oper} {Q : Exit → Act → World → Prop}
theorem wp_region_flow_turn {id : Nat} {T : Array Value} {df : List Deferred} {w : World} (n p : Nat) (hp : p < n) (S : List Nat) (d : Nat → Nat) (C F1 End : World → Prop) (F2 : Value → World → Prop) (R : World → World → Prop) (G : Nat → Value → World → Prop)
    (hm : P.follows .mixedOrders = true) (hf : forward .any ops = true) (hS : S.all (fun j => decide (j < T.size)) = true) (hn : ops.size = n + 1)
    (hlast : ((List.range n).all fun i => ((ops[n]?).map fun o => o.after.any fun e => Region.binds .any e && (e.on == i)).getD false) = true)
    (hd : ∀ i j, i < n → j < n → d i = d j → i = j) (hdS : ∀ i, i < n → d i ∈ S)
    (hC : ∀ wx wy, C wx → Below wx.heap.size wx wy → C wy) (hF1 : ∀ wx wy, F1 wx → Below wx.heap.size wx wy → F1 wy) (hF2 : ∀ u wx wy, F2 u wx → Below wx.heap.size wx wy → F2 u wy)
    (hG : ∀ i u wx wy, Below wx.heap.size wx wy → G i u wx → G i u wy)
    (hCR : ∀ wx wy, C wx → R wx wy → C wy) (hGR : ∀ i u wx wy, C wx → R wx wy → G i u wx → G i u wy)
    (h0 : C w.drew) (h1 : F1 w.drew)
    (hstep : ∀ (i : Nat) (v : Nat → Value) (wx : World) (o : Oper) (T' : Array Value) (K : Act → World → Prop), i < n → i ≠ p → ops[i]? = some o → C wx → (∀ e ∈ o.after, Region.binds .any e = true → e.on ≠ p → G e.on (v (d e.on)) wx) →
      (∀ j, j ∈ S → T'[j]? = some (v j)) → (∀ j, j ∉ S → T'[j]? = T[j]?) →
      (∀ x w', Below wx.heap.size wx w' → G i x w' → K ⟨T'.setIfInBounds (d i) x, df⟩ w') →
      if Region.wanted o (yielded ops T') = true then Oper.wp P o ⟨T', df⟩ wx K Q else K (Act.put ⟨T', df⟩ o.dst undef) wx)
    (hturn : ∀ (v : Nat → Value) (wx : World) (o : Oper) (T' : Array Value) (K : Act → World → Prop), ops[p]? = some o → C wx → F1 wx → (∀ e ∈ o.after, Region.binds .any e = true → e.on ≠ p → G e.on (v (d e.on)) wx) →
      (∀ j, j ∈ S → T'[j]? = some (v j)) → (∀ j, j ∉ S → T'[j]? = T[j]?) →
      (∀ x w', R wx w' → F2 x w' → K ⟨T'.setIfInBounds (d p) x, df⟩ w') →
      if Region.wanted o (yielded ops T') = true then Oper.wp P o ⟨T', df⟩ wx K Q else K (Act.put ⟨T', df⟩ o.dst undef) wx)
    (hstore : ∀ (v : Nat → Value) (wx : World) (o : Oper) (T' : Array Value) (K : Act → World → Prop), ops[n]? = some o → C wx → F2 (v (d p)) wx → (∀ i, i < n → i ≠ p → G i (v (d i)) wx) →
      (∀ j, j ∈ S → T'[j]? = some (v j)) → (∀ j, j ∉ S → T'[j]? = T[j]?) → (∀ w', End w' → K ⟨T', df⟩ w') →
      if Region.wanted o (yielded ops T') = true then Oper.wp P o ⟨T', df⟩ wx K Q else K (Act.put ⟨T', df⟩ o.dst undef) wx)
    (hend : ∀ (v : Nat → Value) (wx : World), End wx → Q .normal ⟨over T S v, df⟩ wx) :
    (Code.region id ops true).wp P Q ⟨T, df⟩ w := by
  refine wp_region_inv3 S (fun b v wx => (b n = false → C wx ∧ (b p = false → F1 wx) ∧ (b p = true → F2 (v (d p)) wx) ∧ ∀ i, i < n → i ≠ p → b i = true → G i (v (d i)) wx) ∧ (b n = true → (∀ i, i < n → b i = true) ∧ End wx)) hm hf hS ⟨fun _ => ⟨h0, fun _ => h1, fun h => Bool.noConfusion h, fun _ _ _ h => Bool.noConfusion h⟩, fun h => Bool.noConfusion h⟩ ?_ ?_
  · rintro i b v wx o T' K ho hdep hb ⟨k1, k2⟩ hin hout hK hK'
    have hi : i < n + 1 := by rw [← hn]; exact (Array.getElem?_eq_some_iff.1 ho).1
    by_cases hl : i = n
    · subst hl
      obtain ⟨hCx, hA, hB, hall⟩ := k1 hb
      have hbi : ∀ j, j < i → b j = true := fun j hj => by
        have h := List.all_eq_true.1 hlast j (List.mem_range.2 hj)
        simp only [ho, Option.map_some, Option.getD_some] at h
        obtain ⟨k, hk, hp⟩ := Array.any_eq_true.1 h
        have he : o.after[k] ∈ o.after := Array.getElem_mem hk
        generalize o.after[k] = e at hp he
        have hp' := Bool.and_eq_true_iff.1 hp
        have e1 := hdep e he hp'.1
        rw [beq_iff_eq.1 hp'.2] at e1
        exact e1
      refine hstore v wx o T' K ho hCx (hB (hbi p hp)) (fun j hj hne => hall j hj hne (hbi j hj)) hin hout (fun w' hE => hK' _ ⟨fun h => ?_, fun _ => ⟨fun j hj => ?_, hE⟩⟩)
      · unfold updB at h
        rw [if_pos rfl] at h
        exact Bool.noConfusion h
      · unfold updB
        rw [if_neg (by omega)]
        exact hbi j hj
    · have hi' : i < n := by omega
      have hbn : b n = false := by
        cases hbn : b n with
        | false => rfl
        | true => exact absurd ((k2 hbn).1 i hi') (by rw [hb]; decide)
      obtain ⟨hCx, hA, hB, hall⟩ := k1 hbn
      have hon : ∀ e ∈ o.after, Region.binds .any e = true → e.on < n := fun e he hbd => by
        have h := List.all_eq_true.1 hf i (List.mem_range.2 (by omega))
        simp only [ho, Option.map_some, Option.getD_some] at h
        have h2 := (Array.all_eq_true_iff_forall_mem.1 h) e he
        have : e.on < i := by simpa [hbd] using h2
        omega
      have hn' : ∀ {h : updB b i n = true}, False := fun {h} => by
        unfold updB at h
        rw [if_neg (Ne.symm hl), hbn] at h
        exact Bool.noConfusion h
      by_cases hip : i = p
      · subst hip
        refine hturn v wx o T' K ho hCx (hA hb) (fun e he hbd hne => hall _ (hon e he hbd) hne (hdep e he hbd)) hin hout (fun x w' hR hx => hK _ _ _ (hdS i hi') ⟨fun _ => ⟨hCR _ _ hCx hR, fun h => ?_, fun _ => ?_, fun j hj hne hbj => ?_⟩, fun h => (hn' (h := h)).elim⟩)
        · unfold updB at h
          rw [if_pos rfl] at h
          exact Bool.noConfusion h
        · have e2 : updV v (d i) x (d i) = x := by unfold updV; rw [if_pos rfl]
          rw [e2]
          exact hx
        · rw [updV_other hd hi' hj hne]
          unfold updB at hbj
          rw [if_neg hne] at hbj
          exact hGR _ _ _ _ hCx hR (hall j hj hne hbj)
      · refine hstep i v wx o T' K hi' hip ho hCx (fun e he hbd hne => hall _ (hon e he hbd) hne (hdep e he hbd)) hin hout (fun x w' hW hx => hK _ _ _ (hdS i hi') ⟨fun _ => ⟨hC _ _ hCx hW, fun h => ?_, fun h => ?_, fun j hj hne hbj => ?_⟩, fun h => (hn' (h := h)).elim⟩)
        · unfold updB at h
          rw [if_neg (Ne.symm hip)] at h
          exact hF1 _ _ (hA h) hW
        · unfold updB at h
          rw [if_neg (Ne.symm hip)] at h
          rw [updV_other hd hi' hp (Ne.symm hip)]
          exact hF2 _ _ _ (hB h) hW
        · by_cases e : j = i
          · subst e
            have e2 : updV v (d j) x (d j) = x := by unfold updV; rw [if_pos rfl]
            rw [e2]
            exact hx
          · rw [updV_other hd hi' hj e]
            unfold updB at hbj
            rw [if_neg e] at hbj
            exact hG _ _ _ _ hW (hall j hj hne hbj)
  · rintro b v wx hb ⟨-, k2⟩
    exact hend v wx (k2 (hb n (by omega))).2
end
def Bw (w : World) (g T : Nat) (a b c : Value) : Prop := w.heap[g]? = some (.cells #[a, b, c] T (0, 0))
theorem Bw.lt {w : World} {g T : Nat} {a b c : Value} (h : Bw w g T a b c) : g < w.heap.size := lt_of_heap h
theorem Bw.keep {w w' : World} {g T : Nat} {a b c : Value} (h : Bw w g T a b c) (hb : Below w.heap.size w w') : Bw w' g T a b c := (hb.block g h.lt).trans h
theorem Bw.block {w w' : World} {g T : Nat} {a b c : Value} (h : Bw w g T a b c) (hb : w'.heap[g]? = w.heap[g]?) : Bw w' g T a b c := hb.trans h
theorem Bw.out {w : World} {g T : Nat} {a b c : Value} (h : Bw w g T a b c) : w.cell? ⟨g, 0, none⟩ = some a ∧ w.cell? ⟨g, 1, none⟩ = some b ∧ w.cell? ⟨g, 2, none⟩ = some c := by
  have hh : w.heap[g]? = some (.cells #[a, b, c] T (0, 0)) := h
  refine ⟨?_, ?_, ?_⟩ <;> simp [World.cell?, hh]
theorem Bw.frz {w : World} {g T : Nat} {a b c : Value} (h : Bw w g T a b c) : w.frozen? ⟨g, 0, none⟩ = false ∧ w.frozen? ⟨g, 1, none⟩ = false ∧ w.frozen? ⟨g, 2, none⟩ = false := by
  have hh : w.heap[g]? = some (.cells #[a, b, c] T (0, 0)) := h
  refine ⟨?_, ?_, ?_⟩ <;> simp [World.frozen?, hh]
theorem Bw.put {w : World} {g T : Nat} {a b c : Value} (h : Bw w g T a b c) (a' b' c' : Value) : Bw (((w.setCell ⟨g, 0, none⟩ a').setCell ⟨g, 1, none⟩ b').setCell ⟨g, 2, none⟩ c') g T a' b' c' := by
  have hh : w.heap[g]? = some (.cells #[a, b, c] T (0, 0)) := h
  unfold Bw
  simp [World.setCell, Array.getElem?_modify, hh]
theorem Bw.put2 {w : World} {g T : Nat} {a b c : Value} (h : Bw w g T a b c) (c' : Value) : Bw (w.setCell ⟨g, 2, none⟩ c') g T a b c' := by
  have hh : w.heap[g]? = some (.cells #[a, b, c] T (0, 0)) := h
  unfold Bw
  simp [World.setCell, Array.getElem?_modify, hh]
theorem Bw.new (w : World) (T : Nat) (a b c : Value) : Bw (w.alloc (.cells #[a, b, c] T)) w.heap.size T a b c := heap_alloc_new w _
theorem alloc2 {w Z : World} {T T' : Nat} {a b c a' b' c' : Value} (h : (w.alloc (.cells #[a, b, c] T)).alloc (.cells #[a', b', c'] T') = Z) : Bw Z w.heap.size T a b c ∧ Bw Z (w.heap.size + 1) T' a' b' c' ∧ Below w.heap.size w Z := by
  have e : (w.alloc (.cells #[a, b, c] T)).heap.size = w.heap.size + 1 := by simp
  have h2 := Bw.new (w.alloc (.cells #[a, b, c] T)) T' a' b' c'
  rw [e, h] at h2
  refine ⟨?_, h2, ?_⟩
  · rw [← h]; exact (Bw.new w T a b c).keep (below_alloc _ _)
  · rw [← h]; exact (below_alloc _ _).trans ((below_alloc _ _).mono (by rw [e]; omega))
theorem below_put {B : Nat} {X w : World} (h : Below B X w) {g : Nat} (hg : B ≤ g) (i j k : Nat) (a b c : Value) : Below B X (((w.setCell ⟨g, i, none⟩ a).setCell ⟨g, j, none⟩ b).setCell ⟨g, k, none⟩ c) := ((h.setCell (p := ⟨g, i, none⟩) hg a).setCell (p := ⟨g, j, none⟩) hg b).setCell (p := ⟨g, k, none⟩) hg c
def SV (P : Nat → Prop) (w : World) (u : Value) (tg : StV) : Prop := ∃ s : StV, u = .agg #[.int .i64 s.ow, .int .i64 s.mrk, .slice s.A s.n s.c] ∧ StL s tg ∧ StP P w s
def RetT (P : Nat → Prop) (tg : StV) (w : World) (e : Ending) (w' : World) : Prop := ∃ u, e = .returned u ∧ SV P w' u tg ∧ Below w.heap.size w w'
inductive Sm where
  | val (v : Value)
  | st (P : Nat → Prop) (tg : StV)
  | br (lo : Nat) (h : ChV)
  | co (lo : Nat) (h : ChV)
  | el (lo : Nat) (h : ChV)
  | eb
def Sm.ok : Sm → Value → World → Prop
  | .val v, u, _ => u = v
  | .st P tg, u, w => SV P w u tg
  | .br lo h, u, w => BV lo w u h
  | .co lo h, u, w => ∃ A' c', u = .agg #[.int .i64 h.t, .int .i64 h.l, .slice A' h.n c'] ∧ BrP (fun b => lo ≤ b) w ⟨h.t, h.l, A', h.n, c', h.tw, h.ct, h.cl⟩
  | .el lo h, u, w => ∃ e A' c', u = .slice (some ⟨e, 0, none⟩) 1 1 ∧ lo ≤ e ∧ Bw w e 65 (.int .i64 h.t) (.int .i64 h.l) (.slice A' h.n c') ∧ BrP (fun b => lo ≤ b) w ⟨h.t, h.l, A', h.n, c', h.tw, h.ct, h.cl⟩
  | .eb, u, _ => ∃ e, u = .slice (some ⟨e, 0, none⟩) 0 0
theorem Sm.keep {s : Sm} {u : Value} {w w' : World} (h : s.ok u w) (hb : Below w.heap.size w w') : s.ok u w' := by
  cases s with
  | val v => exact h
  | st P tg => obtain ⟨s, e, h1, h2⟩ := h; exact ⟨s, e, h1, h2.stay hb.size fun b hlt _ => hb.block b hlt⟩
  | br lo g => obtain ⟨A, c, e, h1⟩ := h; exact ⟨A, c, e, h1.stay hb.size fun b hlt _ => hb.block b hlt⟩
  | co lo g => obtain ⟨A, c, e, h1⟩ := h; exact ⟨A, c, e, h1.stay hb.size fun b hlt _ => hb.block b hlt⟩
  | el lo g => obtain ⟨x, A, c, e, h0, h2, h1⟩ := h; exact ⟨x, A, c, e, h0, h2.keep hb, h1.stay hb.size fun b hlt _ => hb.block b hlt⟩
  | eb => exact h
def Sm.free (lo : Nat) : Sm → Prop
  | .val _ => True
  | .st _ _ => False
  | .br l _ => lo ≤ l
  | .co l _ => lo ≤ l
  | .el l _ => lo ≤ l
  | .eb => True
theorem Sm.turn {lo : Nat} {s : Sm} {u : Value} {w w' : World} (hf : s.free lo) (h : s.ok u w) (hs : w.heap.size ≤ w'.heap.size) (hb : ∀ b, b < w.heap.size → lo ≤ b → w'.heap[b]? = w.heap[b]?) : s.ok u w' := by
  cases s with
  | val v => exact h
  | st P tg => exact hf.elim
  | br l g => obtain ⟨A, c, e, h1⟩ := h; exact ⟨A, c, e, h1.stay hs fun b hlt hp => hb b hlt (Nat.le_trans hf hp)⟩
  | co l g => obtain ⟨A, c, e, h1⟩ := h; exact ⟨A, c, e, h1.stay hs fun b hlt hp => hb b hlt (Nat.le_trans hf hp)⟩
  | el l g => obtain ⟨x, A, c, e, h0, h2, h1⟩ := h; exact ⟨x, A, c, e, h0, h2.block (hb x h2.lt (Nat.le_trans hf h0)), h1.stay hs fun b hlt hp => hb b hlt (Nat.le_trans hf hp)⟩
  | eb => exact h
def Sml (L : List Sm) (i : Nat) (u : Value) (w : World) : Prop := (L.getD i (.val (.int .i64 0))).ok u w
theorem Sml.keep {L : List Sm} (i : Nat) (u : Value) (w w' : World) (hb : Below w.heap.size w w') (h : Sml L i u w) : Sml L i u w' := Sm.keep h hb
theorem Sml.turn {lo : Nat} {L : List Sm} (hL : ∀ s ∈ L, Sm.free lo s) (i : Nat) (u : Value) {w w' : World} (h : Sml L i u w) (hs : w.heap.size ≤ w'.heap.size) (hb : ∀ b, b < w.heap.size → lo ≤ b → w'.heap[b]? = w.heap[b]?) : Sml L i u w' := by
  unfold Sml at h ⊢
  refine Sm.turn (lo := lo) ?_ h hs hb
  rcases Nat.lt_or_ge i L.length with hi | hi
  · have e : L.getD i (.val (.int .i64 0)) = L[i] := by simp [List.getD, hi]
    rw [e]
    exact hL _ (List.getElem_mem hi)
  · have e : L.getD i (.val (.int .i64 0)) = .val (.int .i64 0) := by simp [List.getD, hi]
    rw [e]
    trivial
theorem alloc3 {w Z : World} {T T' T'' : Nat} {a b c a' b' c' a'' b'' c'' : Value} (h : ((w.alloc (.cells #[a, b, c] T)).alloc (.cells #[a', b', c'] T')).alloc (.cells #[a'', b'', c''] T'') = Z) :
    Bw Z w.heap.size T a b c ∧ Bw Z (w.heap.size + 1) T' a' b' c' ∧ Bw Z (w.heap.size + 1 + 1) T'' a'' b'' c'' ∧ Below w.heap.size w Z := by
  obtain ⟨h1, h2, h3⟩ := alloc2 (w := w) (T := T) (T' := T') (a := a) (b := b) (c := c) (a' := a') (b' := b') (c' := c') rfl
  generalize hY : (w.alloc (.cells #[a, b, c] T)).alloc (.cells #[a', b', c'] T') = Y at *
  have e : Y.heap.size = w.heap.size + 1 + 1 := by rw [← hY]; simp
  have h4 := Bw.new Y T'' a'' b'' c''
  rw [e, h] at h4
  have hb := below_alloc Y (.cells #[a'', b'', c''] T'')
  rw [h] at hb
  exact ⟨h1.keep hb, h2.keep hb, h4, h3.trans (hb.mono h3.size)⟩
theorem Bw.rows1 {P : Nat → Prop} {w : World} {g T : Nat} {a b c : Value} (h : Bw w g T a b c) (hP : P g) : Rows3P P w (some ⟨g, 0, none⟩) 1 (fun _ => a) (fun _ => b) (fun _ => c) := fun _ =>
  ⟨g, 0, rfl, h.lt, hP, fun i hi => by
    obtain rfl : i = 0 := by omega
    exact h.out⟩
theorem only_any (P : Nat → Prop) (ow mrk t l : Int) (A B : Option Addr) (n c m d : Nat) (tw ct cl : Nat → Int) (w : World) (hP : ∀ b, w.heap.size ≤ b → P b) (hb : BrP P w ⟨t, l, B, m, d, tw, ct, cl⟩) :
    Calls Tryz.prog 63 #[.agg #[.int .i64 ow, .int .i64 mrk, .slice A n c], .agg #[.int .i64 t, .int .i64 l, .slice B m d]] w (RetT P ⟨ow, mrk, none, 1, 1, fun _ => ⟨t, l, B, m, d, tw, ct, cl⟩⟩ w) := by
  have HB := Lib.hid hb
  have HP := Lib.hid hP
  clear hb hP
  go_enter Tryz.func63, Tryz.ntmps63
  go_upto_region 1 with fail
  generalize hZ : World.alloc _ _ = Z
  obtain ⟨b1, b2, b3, bZ⟩ := alloc3 hZ
  have HZ := Lib.hid bZ
  have B3 := Lib.hid b3
  obtain ⟨j0, j1, j2⟩ := b1.out
  obtain ⟨k0, k1, k2⟩ := b2.out
  obtain ⟨r0, r1, r2⟩ := b3.out
  obtain ⟨f0, f1, f2⟩ := b3.frz
  have hlt := b3.lt
  have HG : Hid (w.heap.size ≤ w.heap.size + 1 + 1) := Lib.hid (by omega)
  have HG2 : Hid (w.heap.size + 1 + 1 < Z.heap.size) := Lib.hid hlt
  clear hZ b1 b2 b3 bZ
  generalize w.heap.size + 1 + 1 = g at *
  go_wp2_with fail
  generalize hY : World.alloc _ _ = Y
  have HY : Hid (Bw Y g 53 (.int .i64 ow) (.int .i64 mrk) (.slice (some ⟨Z.heap.size, 0, none⟩) 1 1) ∧ Bw Y Z.heap.size 65 (.int .i64 t) (.int .i64 l) (.slice B m d) ∧ Below w.heap.size w Y) := by
    have hb := B3.out.put (.int .i64 ow) (.int .i64 mrk) (.slice (some ⟨Z.heap.size, 0, none⟩) 1 1)
    have hbe := below_put HZ.out (g := g) HG.out 0 1 2 (.int .i64 ow) (.int .i64 mrk) (.slice (some ⟨Z.heap.size, 0, none⟩) 1 1)
    have hs := size_cells (w := Z) (g := g) (i := 0) (j := 1) (k := 2) (a := .int .i64 ow) (b := .int .i64 mrk) (c := .slice (some ⟨Z.heap.size, 0, none⟩) 1 1)
    generalize ((Z.setCell ⟨g, 0, none⟩ (.int .i64 ow)).setCell ⟨g, 1, none⟩ (.int .i64 mrk)).setCell ⟨g, 2, none⟩ (.slice (some ⟨Z.heap.size, 0, none⟩) 1 1) = V at hY hb hbe hs
    have h2 := Bw.new V 65 (.int .i64 t) (.int .i64 l) (.slice B m d)
    rw [hs, hY] at h2
    have h1 := hb.keep (below_alloc V (.cells #[.int .i64 t, .int .i64 l, .slice B m d] 65))
    rw [hY] at h1
    have h3 := hbe.trans ((below_alloc V (.cells #[.int .i64 t, .int .i64 l, .slice B m d] 65)).mono hbe.size)
    rw [hY] at h3
    exact Lib.hid ⟨h1, h2, h3⟩
  obtain ⟨c0, c1, c2⟩ := HY.out.1.out
  have hgy := HY.out.1.lt
  clear hY j0 j1 j2 k0 k1 k2 r0 r1 r2 f0 f1 f2 hlt B3
  exact bodyPost_ret (v := .agg #[.int .i64 ow, .int .i64 mrk, .slice (some ⟨Z.heap.size, 0, none⟩) 1 1]) (by simp [results, Tryz.results63, go_sem, c0, c1, c2]) rfl
    ⟨_, rfl, ⟨⟨ow, mrk, some ⟨Z.heap.size, 0, none⟩, 1, 1, fun _ => ⟨t, l, B, m, d, tw, ct, cl⟩⟩, rfl, ⟨rfl, rfl, rfl, fun _ _ => ChLk.refl _⟩, HY.out.2.1.rows1 (HP.out _ HZ.out.size), fun _ _ => HB.out.stay HY.out.2.2.size fun b hlt _ => HY.out.2.2.block b hlt⟩, HY.out.2.2⟩
end Go.Proofs.YtokbejkkpekpnaaGreatDoor
