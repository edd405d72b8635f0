/- A region whose order is drawn, where each operation makes one value: what each value is, whatever the order; then, maybe, one last store. -/
import Derived.Test.YtmfnpipmbpnfbaaGreatDoorF18
import Derived.Below
import Derived.Test.YtmfnpipmbpnfbaaGreatDoorF14
import Derived.Deep.DeepCutAuto

set_option maxRecDepth 100000
set_option maxHeartbeats 40000000
namespace Go.Proofs.YtmfnpipmbpnfbaaGreatDoor
open Go Go.RowKit
section
variable {P : Program} {ops : Array Oper} {Q : Exit → Act → World → Prop}
theorem updV_other {d : Nat → Nat} {n : Nat} (hd : ∀ i j, i < n → j < n → d i = d j → i = j) {v : Nat → Value} {x : Value} {i j : Nat} (hi : i < n) (hj : j < n) (h : j ≠ i) : updV v (d i) x (d j) = v (d j) := by
  unfold updV
  rw [if_neg (fun e => h (hd _ _ hj hi e))]
theorem wp_region_flow {id : Nat} {T : Array Value} {df : List Deferred} {w : World} (n : Nat) (S : List Nat) (d : Nat → Nat) (Fix : World → Prop) (G : Nat → Value → World → Prop)
    (hm : P.follows .mixedOrders = true) (hf : forward .any ops = true) (hS : S.all (fun j => decide (j < T.size)) = true) (hn : ops.size = n)
    (hd : ∀ i j, i < n → j < n → d i = d j → i = j) (hdS : ∀ i, i < n → d i ∈ S)
    (hkeep : ∀ wx wy, Fix wx → Below wx.heap.size wx wy → Fix wy) (hG : ∀ i u wx wy, Below wx.heap.size wx wy → G i u wx → G i u wy)
    (h0 : Fix w.drew)
    (hstep : ∀ (i : Nat) (v : Nat → Value) (wx : World) (o : Oper) (T' : Array Value) (K : Act → World → Prop), ops[i]? = some o → Fix wx → (∀ e ∈ o.after, Region.binds .any e = true → G e.on (v (d e.on)) wx) →
      (∀ j, j ∈ S → T'[j]? = some (v j)) → (∀ j, j ∉ S → T'[j]? = T[j]?) →
      (∀ x w', Below wx.heap.size wx w' → G i x w' → K ⟨T'.setIfInBounds (d i) x, df⟩ w') →
      if Region.wanted o (yielded ops T') = true then Oper.wp P o ⟨T', df⟩ wx K Q else K (Act.put ⟨T', df⟩ o.dst undef) wx)
    (hend : ∀ (v : Nat → Value) (wx : World), Fix wx → (∀ i, i < n → G i (v (d i)) wx) → Q .normal ⟨over T S v, df⟩ wx) :
    (Code.region id ops true).wp P Q ⟨T, df⟩ w := by
  refine wp_region_inv3 S (fun b v wx => Fix wx ∧ ∀ i, i < n → b i = true → G i (v (d i)) wx) hm hf hS ⟨h0, fun _ _ h => Bool.noConfusion h⟩ ?_ ?_
  · rintro i b v wx o T' K ho hdep hb ⟨hF, hall⟩ hin hout hK -
    have hi : i < n := by rw [← hn]; exact (Array.getElem?_eq_some_iff.1 ho).1
    have hon : ∀ e ∈ o.after, Region.binds .any e = true → e.on < n := fun e he hbd => by
      have h := List.all_eq_true.1 hf i (List.mem_range.2 (by omega))
      simp only [ho, Option.map_some, Option.getD_some] at h
      have h2 := (Array.all_eq_true_iff_forall_mem.1 h) e he
      have : e.on < i := by simpa [hbd] using h2
      omega
    refine hstep i v wx o T' K ho hF (fun e he hbd => hall _ (hon e he hbd) (hdep e he hbd)) hin hout (fun x w' hB hx => hK _ _ _ (hdS i hi) ⟨hkeep _ _ hF hB, fun j hj hbj => ?_⟩)
    by_cases e : j = i
    · subst e
      have e2 : updV v (d j) x (d j) = x := by unfold updV; rw [if_pos rfl]
      rw [e2]
      exact hx
    · rw [updV_other hd hi hj e]
      unfold updB at hbj
      rw [if_neg e] at hbj
      exact hG _ _ _ _ hB (hall j hj hbj)
  · rintro b v wx hb ⟨hF, hall⟩
    exact hend v wx hF (fun i hi => hall i hi (hb i (by omega)))
theorem wp_region_flow_store {id : Nat} {T : Array Value} {df : List Deferred} {w : World} (n : Nat) (S : List Nat) (d : Nat → Nat) (Fix End : World → Prop) (G : Nat → Value → World → Prop)
    (hm : P.follows .mixedOrders = true) (hf : forward .any ops = true) (hS : S.all (fun j => decide (j < T.size)) = true) (hn : ops.size = n + 1)
    (hlast : ((List.range n).all fun i => ((ops[n]?).map fun o => o.after.any fun e => Region.binds .any e && (e.on == i)).getD false) = true)
    (hd : ∀ i j, i < n → j < n → d i = d j → i = j) (hdS : ∀ i, i < n → d i ∈ S)
    (hkeep : ∀ wx wy, Fix wx → Below wx.heap.size wx wy → Fix wy) (hG : ∀ i u wx wy, Below wx.heap.size wx wy → G i u wx → G i u wy)
    (h0 : Fix w.drew)
    (hstep : ∀ (i : Nat) (v : Nat → Value) (wx : World) (o : Oper) (T' : Array Value) (K : Act → World → Prop), i < n → ops[i]? = some o → Fix wx → (∀ e ∈ o.after, Region.binds .any e = true → G e.on (v (d e.on)) wx) →
      (∀ j, j ∈ S → T'[j]? = some (v j)) → (∀ j, j ∉ S → T'[j]? = T[j]?) →
      (∀ x w', Below wx.heap.size wx w' → G i x w' → K ⟨T'.setIfInBounds (d i) x, df⟩ w') →
      if Region.wanted o (yielded ops T') = true then Oper.wp P o ⟨T', df⟩ wx K Q else K (Act.put ⟨T', df⟩ o.dst undef) wx)
    (hstore : ∀ (v : Nat → Value) (wx : World) (o : Oper) (T' : Array Value) (K : Act → World → Prop), ops[n]? = some o → Fix wx → (∀ i, i < n → G i (v (d i)) wx) →
      (∀ j, j ∈ S → T'[j]? = some (v j)) → (∀ j, j ∉ S → T'[j]? = T[j]?) → (∀ w', End w' → K ⟨T', df⟩ w') →
      if Region.wanted o (yielded ops T') = true then Oper.wp P o ⟨T', df⟩ wx K Q else K (Act.put ⟨T', df⟩ o.dst undef) wx)
    (hend : ∀ (v : Nat → Value) (wx : World), End wx → Q .normal ⟨over T S v, df⟩ wx) :
    (Code.region id ops true).wp P Q ⟨T, df⟩ w := by
  refine wp_region_inv3 S (fun b v wx => (b n = false → Fix wx ∧ ∀ i, i < n → b i = true → G i (v (d i)) wx) ∧ (b n = true → (∀ i, i < n → b i = true) ∧ End wx)) hm hf hS ⟨fun _ => ⟨h0, fun _ _ h => Bool.noConfusion h⟩, fun h => Bool.noConfusion h⟩ ?_ ?_
  · rintro i b v wx o T' K ho hdep hb ⟨h1, h2⟩ hin hout hK hK'
    have hi : i < n + 1 := by rw [← hn]; exact (Array.getElem?_eq_some_iff.1 ho).1
    by_cases hl : i = n
    · subst hl
      obtain ⟨hF, hall⟩ := h1 hb
      have hbi : ∀ j, j < i → b j = true := fun j hj => by
        have h := List.all_eq_true.1 hlast j (List.mem_range.2 hj)
        simp only [ho, Option.map_some, Option.getD_some] at h
        obtain ⟨k, hk, hp⟩ := Array.any_eq_true.1 h
        have he : o.after[k] ∈ o.after := Array.getElem_mem hk
        generalize o.after[k] = e at hp he
        have hp' := Bool.and_eq_true_iff.1 hp
        have e1 := hdep e he hp'.1
        rw [beq_iff_eq.1 hp'.2] at e1
        exact e1
      refine hstore v wx o T' K ho hF (fun j hj => hall j hj (hbi j hj)) hin hout (fun w' hE => hK' _ ⟨fun h => ?_, fun _ => ⟨fun j hj => ?_, hE⟩⟩)
      · unfold updB at h
        rw [if_pos rfl] at h
        exact Bool.noConfusion h
      · unfold updB
        rw [if_neg (by omega)]
        exact hbi j hj
    · have hi' : i < n := by omega
      have hbn : b n = false := by
        cases hbn : b n with
        | false => rfl
        | true => exact absurd ((h2 hbn).1 i hi') (by rw [hb]; decide)
      obtain ⟨hF, hall⟩ := h1 hbn
      have hon : ∀ e ∈ o.after, Region.binds .any e = true → e.on < n := fun e he hbd => by
        have h := List.all_eq_true.1 hf i (List.mem_range.2 (by omega))
        simp only [ho, Option.map_some, Option.getD_some] at h
        have h2 := (Array.all_eq_true_iff_forall_mem.1 h) e he
        have : e.on < i := by simpa [hbd] using h2
        omega
      refine hstep i v wx o T' K hi' ho hF (fun e he hbd => hall _ (hon e he hbd) (hdep e he hbd)) hin hout (fun x w' hB hx => hK _ _ _ (hdS i hi') ⟨fun _ => ⟨hkeep _ _ hF hB, fun j hj hbj => ?_⟩, fun h => ?_⟩)
      · by_cases e : j = i
        · subst e
          have e2 : updV v (d j) x (d j) = x := by unfold updV; rw [if_pos rfl]
          rw [e2]
          exact hx
        · rw [updV_other hd hi' hj e]
          unfold updB at hbj
          rw [if_neg e] at hbj
          exact hG _ _ _ _ hB (hall j hj hbj)
      · unfold updB at h
        rw [if_neg (Ne.symm hl)] at h
        rw [hbn] at h
        exact Bool.noConfusion h
  · rintro b v wx hb ⟨-, h2⟩
    exact hend v wx (h2 (hb n (by omega))).2
end
end Go.Proofs.YtmfnpipmbpnfbaaGreatDoor
namespace Go.Proofs.YtmfnpipmbpnfbaaGreatDoor
open Go.RowKit
def RetN (k : Nat) (w : World) (e : Ending) (w' : World) : Prop := ∃ A n c, e = .returned (.agg #[.bool false, .slice A n c]) ∧ D w' (.slice A n c) k ∧ Below w.heap.size w w'
theorem RetN.of {k : Nat} {w w' : World} {e : Ending} (h : RetJ (k : Int) w e w') : RetN k w e w' := by
  obtain ⟨A, n, c, rfl, hD, hB⟩ := h
  exact ⟨A, n, c, by rw [decide_eq_false (show ¬ ((k : Int) < 0) by omega)], by simpa using hD, hB⟩
def RetB (z : Int) (w : World) (e : Ending) (w' : World) : Prop := ∃ b A n c, e = .returned (.agg #[.bool b, .slice A n c]) ∧ Hid (b = decide (z < 0)) ∧ D w' (.slice A n c) z.natAbs ∧ Below w.heap.size w w'
theorem RetB.of {z : Int} {w w' : World} {e : Ending} (h : RetJ z w e w') : RetB z w e w' := by
  obtain ⟨A, n, c, rfl, hD, hB⟩ := h
  exact ⟨_, A, n, c, rfl, rfl, hD, hB⟩
theorem sgn_of (z : Int) : sgn (decide (z < 0)) z.natAbs = z := by
  by_cases g : z < 0
  · rw [decide_eq_true g]
    show -((z.natAbs : Nat) : Int) = z
    omega
  · rw [decide_eq_false g]
    show ((z.natAbs : Nat) : Int) = z
    omega
theorem sgn_div (b : Bool) (k l : Nat) (h : l ∣ k) : sgn b (k / l) * (l : Int) = sgn b k := by
  obtain ⟨q, rfl⟩ := h
  rcases Nat.eq_zero_or_pos l with h0 | h0
  · subst h0; cases b <;> simp [sgn]
  · rw [Nat.mul_div_cancel_left _ h0]
    cases b
    · simp [sgn, Int.mul_comm]
    · simp [sgn, Int.mul_comm, Int.mul_neg]
theorem frame4 (w : World) (p q r s p' q' r' s' t u v x : Value) : Below w.heap.size w (((w.alloc (.cells #[p, q, r, s] 185)).alloc (.cells #[p', q', r', s'] 185)).alloc (.cells #[t, u, v, x] 185)) ∧ w.heap.size + 3 = (((w.alloc (.cells #[p, q, r, s] 185)).alloc (.cells #[p', q', r', s'] 185)).alloc (.cells #[t, u, v, x] 185)).heap.size ∧
    Wr4 (w.heap.size + 1 + 1) 185 (((w.alloc (.cells #[p, q, r, s] 185)).alloc (.cells #[p', q', r', s'] 185)).alloc (.cells #[t, u, v, x] 185)) :=
  ⟨(((Below.refl _ _).alloc (Nat.le_refl _) _).alloc (by simp) _).alloc (by simp; omega) _, by simp, Wr4.new _ _ _ _ _ 185 (by simp)⟩
def B4 (g : Nat) (p q r s : Value) (w' : World) : Prop := w'.cell? ⟨g, 0, none⟩ = some p ∧ w'.cell? ⟨g, 1, none⟩ = some q ∧ w'.cell? ⟨g, 2, none⟩ = some r ∧ w'.cell? ⟨g, 3, none⟩ = some s
theorem B4.keep {g : Nat} {p q r s : Value} {X w1 : World} (h : B4 g p q r s X) (hz : g < X.heap.size) (hB : Below X.heap.size X w1) : B4 g p q r s w1 := by
  obtain ⟨h1, h2, h3, h4⟩ := h
  exact ⟨(hB.cell (p := ⟨g, 0, none⟩) hz).trans h1, (hB.cell (p := ⟨g, 1, none⟩) hz).trans h2, (hB.cell (p := ⟨g, 2, none⟩) hz).trans h3, (hB.cell (p := ⟨g, 3, none⟩) hz).trans h4⟩
def B2 (g : Nat) (p q : Value) (w' : World) : Prop := w'.cell? ⟨g, 0, none⟩ = some p ∧ w'.cell? ⟨g, 1, none⟩ = some q
theorem B2.keep {g : Nat} {p q : Value} {X w1 : World} (h : B2 g p q X) (hz : g < X.heap.size) (hB : Below X.heap.size X w1) : B2 g p q w1 :=
  ⟨(hB.cell (p := ⟨g, 0, none⟩) hz).trans h.1, (hB.cell (p := ⟨g, 1, none⟩) hz).trans h.2⟩
theorem B2.new (w : World) (p q : Value) (T : Nat) : B2 w.heap.size p q (w.alloc (.cells #[p, q] T)) := by constructor <;> simp [go_sem]
theorem retR_box' {x : Rat} {b : Bool} {A B : Option Addr} {n c m d g : Nat} {w w1 : World} (hb : b = decide (x.num < 0)) (hD : D w1 (.slice A n c) x.num.natAbs) (hD' : D w1 (.slice B m d) x.den) (hx : Bx w1 g 185) (hB : Below w.heap.size w w1) (hg : w.heap.size ≤ g) :
    RetR x w (.returned (.agg #[.bool b, .slice A n c, .bool false, .slice B m d])) ((((w1.setCell ⟨g, 0, none⟩ (.bool b)).setCell ⟨g, 1, none⟩ (.slice A n c)).setCell ⟨g, 2, none⟩ (.bool false)).setCell ⟨g, 3, none⟩ (.slice B m d)) := by
  subst hb
  exact retR_box hD hD' hx hB hg (Drn.refl _)
def Cut2 (X : World) (k : Nat) (s : Value) (wx : World) : Prop :=
  ∃ g L nl cl, s = .pointer (some ⟨g, 0, none⟩) ∧ B2 g (.bool false) (.slice L nl cl) wx ∧ D wx (.slice L nl cl) k ∧ Below X.heap.size X wx ∧ X.heap.size ≤ g ∧ g < wx.heap.size
theorem cut2_new {X w2 wf : World} {k nl cl : Nat} {L : Option Addr} (hD : D w2 (.slice L nl cl) k) (hB : Below X.heap.size X w2) (hw : Drn (w2.alloc (.cells #[.bool false, .slice L nl cl] 183)) wf) : Cut2 X k (.pointer (some ⟨w2.heap.size, 0, none⟩)) wf := by
  have hb := B2.new w2 (.bool false) (.slice L nl cl) 183
  refine ⟨w2.heap.size, L, nl, cl, rfl, ⟨(hw.cell _).trans hb.1, (hw.cell _).trans hb.2⟩, hw.d (hD.keep (below_alloc _ _)), (hB.alloc hB.size _).trans (hw.below _), hB.size, ?_⟩
  rw [hw.size]; simp
theorem cut2_set {X w0 w2 wf : World} {k nl cl g : Nat} {L : Option Addr} (hg : g = w0.heap.size) (hX : Below X.heap.size X w0) (hB : Below (w0.alloc (.cells #[.bool false, .slice none 0 0] 183)).heap.size (w0.alloc (.cells #[.bool false, .slice none 0 0] 183)) w2)
    (hD : D w2 (.slice L nl cl) k) (hw : Drn ((w2.setCell ⟨g, 0, none⟩ (.bool false)).setCell ⟨g, 1, none⟩ (.slice L nl cl)) wf) : Cut2 X k (.pointer (some ⟨g, 0, none⟩)) wf := by
  subst hg
  have hW := (Wr.new w0 (.bool false) (.slice none 0 0) 183 rfl).keep hB
  obtain ⟨⟨p, q, h1, h2⟩, h3, h4, h5⟩ := hW
  have hsz : w0.heap.size < w2.heap.size := by have := hB.size; simp at this; omega
  refine ⟨w0.heap.size, L, nl, cl, rfl, ⟨(hw.cell _).trans ?_, (hw.cell _).trans ?_⟩, hw.d ((hD.set h5 (by decide) _ _).set (h5.set _ _ _) (by decide) _ _), ?_, hX.size, ?_⟩
  · simp [go_sem, h1]
  · simp [go_sem, h2]
  · have hX2 : Below X.heap.size X w2 := below_trans_same (hX.alloc hX.size _) hB
    exact ((hX2.setCell hX.size _).setCell hX.size _).trans (hw.below _)
  · rw [hw.size]
    simpa [World.setCell] using hsz
theorem mulR_any (b1 b2 : Bool) (A B A' B' : Option Addr) (n c m d n' c' m' d' : Nat) (x y : Rat) (w : World) (hx : Q w b1 (.slice A n c) (.slice B m d) x) (hy : Q w b2 (.slice A' n' c') (.slice B' m' d') y)
    (hn : n ≤ 100000) (hm : m ≤ 100000) (hn' : n' ≤ 100000) (hm' : m' ≤ 100000) (hy1 : y.num.natAbs < 18446744073709551616) (hy2 : y.den < 18446744073709551616) :
    Calls Tryz.prog 185 #[.agg #[.bool b1, .slice A n c, .bool false, .slice B m d], .agg #[.bool b2, .slice A' n' c', .bool false, .slice B' m' d']] w (RetR (x * y) w) := by
  obtain ⟨l, hl⟩ : ∃ l, x.num.natAbs.gcd y.den = l := ⟨_, rfl⟩
  obtain ⟨r, hr⟩ : ∃ r, y.num.natAbs.gcd x.den = r := ⟨_, rfl⟩
  have hxd : 0 < x.den := by have := x.den_nz; omega
  have hyd : 0 < y.den := by have := y.den_nz; omega
  have hl0 : 0 < l := by rw [← hl]; exact Nat.gcd_pos_of_pos_right _ hyd
  have hr0 : 0 < r := by rw [← hr]; exact Nat.gcd_pos_of_pos_right _ hxd
  have hmul : (x * y).num = sgn b1 (x.num.natAbs / l) * sgn b2 (y.num.natAbs / r) ∧ (x * y).den = x.den / r * (y.den / l) :=
    rat_mul hl hr (by rw [sgn_div _ _ _ (by rw [← hl]; exact Nat.gcd_dvd_left _ _)]; exact hx.sgn.symm) (by rw [sgn_div _ _ _ (by rw [← hr]; exact Nat.gcd_dvd_left _ _)]; exact hy.sgn.symm)
      (Nat.div_mul_cancel (by rw [← hr]; exact Nat.gcd_dvd_right _ _)).symm (Nat.div_mul_cancel (by rw [← hl]; exact Nat.gcd_dvd_right _ _)).symm
  have HLa : Hid (∀ wx, Calls Tryz.prog 189 #[.agg #[.bool b1, .slice A n c, .bool false, .slice B m d]] wx fun e w' => e = .returned (.agg #[.bool false, .slice B m d]) ∧ Below wx.heap.size wx w') := fun wx => low_any b1 A B n c m d wx hx.low (by omega)
  have HLb : Hid (∀ wx, Calls Tryz.prog 189 #[.agg #[.bool b2, .slice A' n' c', .bool false, .slice B' m' d']] wx fun e w' => e = .returned (.agg #[.bool false, .slice B' m' d']) ∧ Below wx.heap.size wx w') := fun wx => low_any b2 A' B' n' c' m' d' wx hy.low (by omega)
  have HG1 : Hid (∀ wx, Below w.heap.size w wx → Calls Tryz.prog 213 #[.agg #[.bool b1, .slice A n c], .agg #[.bool false, .slice B' m' d']] wx (RetN l wx)) := fun wx hb => by
    have := divisorI_any b1 false A B' n m' c d' _ _ wx (hx.keep hb).2.1 (hy.keep hb).2.2 (by omega) (by omega) (Or.inr hy2)
    rw [hl] at this
    exact this.mono fun _ _ => RetN.of
  have HG2 : Hid (∀ wx, Below w.heap.size w wx → Calls Tryz.prog 213 #[.agg #[.bool b2, .slice A' n' c'], .agg #[.bool false, .slice B m d]] wx (RetN r wx)) := fun wx hb => by
    have := divisorI_any b2 false A' B n' m c' d _ _ wx (hy.keep hb).2.1 (hx.keep hb).2.2 (by omega) (by omega) (Or.inl hy1)
    rw [hr] at this
    exact this.mono fun _ _ => RetN.of
  have HO1 : Hid (∀ wx L nl cl, Below w.heap.size w wx → D wx (.slice L nl cl) l → Calls Tryz.prog 214 #[.agg #[.bool b1, .slice A n c], .agg #[.bool false, .slice L nl cl]] wx (RetB (sgn b1 (x.num.natAbs / l)) wx)) := fun wx L nl cl hb hD =>
    (over_any b1 A L n nl c cl _ _ wx (hx.keep hb).2.1 hD (by omega) hl0 (by rw [hx.sgn]; exact hx.1)).mono fun _ _ => RetB.of
  have HO2 : Hid (∀ wx L nl cl, Below w.heap.size w wx → D wx (.slice L nl cl) r → Calls Tryz.prog 214 #[.agg #[.bool b2, .slice A' n' c'], .agg #[.bool false, .slice L nl cl]] wx (RetB (sgn b2 (y.num.natAbs / r)) wx)) := fun wx L nl cl hb hD =>
    (over_any b2 A' L n' nl c' cl _ _ wx (hy.keep hb).2.1 hD (by omega) hr0 (by rw [hy.sgn]; exact hy.1)).mono fun _ _ => RetB.of
  have HO3 : Hid (∀ wx L nl cl, Below w.heap.size w wx → D wx (.slice L nl cl) r → Calls Tryz.prog 214 #[.agg #[.bool false, .slice B m d], .agg #[.bool false, .slice L nl cl]] wx (RetN (x.den / r) wx)) := fun wx L nl cl hb hD =>
    (over_any false B L m nl d cl _ _ wx (hx.keep hb).2.2 hD (by omega) hr0 (by simp [sgn])).mono fun _ _ => RetN.of
  have HO4 : Hid (∀ wx L nl cl, Below w.heap.size w wx → D wx (.slice L nl cl) l → Calls Tryz.prog 214 #[.agg #[.bool false, .slice B' m' d'], .agg #[.bool false, .slice L nl cl]] wx (RetN (y.den / l) wx)) := fun wx L nl cl hb hD =>
    (over_any false B' L m' nl d' cl _ _ wx (hy.keep hb).2.2 hD (by omega) hl0 (by simp [sgn])).mono fun _ _ => RetN.of
  have HM1 : Hid (∀ wx p A1 n1 c1 q A2 n2 c2, Hid (p = decide (sgn b1 (x.num.natAbs / l) < 0)) → D wx (.slice A1 n1 c1) (sgn b1 (x.num.natAbs / l)).natAbs → Hid (q = decide (sgn b2 (y.num.natAbs / r) < 0)) → D wx (.slice A2 n2 c2) (sgn b2 (y.num.natAbs / r)).natAbs →
      Calls Tryz.prog 215 #[.agg #[.bool p, .slice A1 n1 c1], .agg #[.bool q, .slice A2 n2 c2]] wx (RetB (x * y).num wx)) := fun wx p A1 n1 c1 q A2 n2 c2 hp h1 hq h2 => by
    have e1 : n1 ≤ n := h1.len (by rw [sgn_abs]; exact Nat.lt_of_le_of_lt (Nat.div_le_self _ _) hx.2.1.pow)
    have e2 : n2 ≤ n' := h2.len (by rw [sgn_abs]; exact Nat.lt_of_le_of_lt (Nat.div_le_self _ _) hy.2.1.pow)
    have := mulI_any p q A1 A2 n1 n2 c1 c2 _ _ wx h1 h2 (by omega) (by omega)
    rw [hp.out, hq.out, sgn_of, sgn_of, ← hmul.1] at this
    rw [hp.out, hq.out]
    exact this.mono fun _ _ => RetB.of
  have HM2 : Hid (∀ wx A1 n1 c1 A2 n2 c2, D wx (.slice A1 n1 c1) (x.den / r) → D wx (.slice A2 n2 c2) (y.den / l) → Calls Tryz.prog 215 #[.agg #[.bool false, .slice A1 n1 c1], .agg #[.bool false, .slice A2 n2 c2]] wx (RetN (x * y).den wx)) := fun wx A1 n1 c1 A2 n2 c2 h1 h2 => by
    have e1 : n1 ≤ m := h1.len (Nat.lt_of_le_of_lt (Nat.div_le_self _ _) hx.2.2.pow)
    have e2 : n2 ≤ m' := h2.len (Nat.lt_of_le_of_lt (Nat.div_le_self _ _) hy.2.2.pow)
    have := mulI_any false false A1 A2 n1 n2 c1 c2 _ _ wx h1 h2 (by omega) (by omega)
    have e : sgn false (x.den / r) * sgn false (y.den / l) = (((x * y).den : Nat) : Int) := by rw [hmul.2]; simp [sgn]
    rw [e] at this
    exact this.mono fun _ _ => RetN.of
  generalize x * y = z at HM1 HM2 ⊢
  clear hmul hl0 hr0 hxd hyd hl hr hy1 hy2 hx hy
  generalize sgn b1 (x.num.natAbs / l) = z1 at HO1 HM1
  generalize sgn b2 (y.num.natAbs / r) = z2 at HO2 HM1
  generalize x.den / r = z3 at HO3 HM2
  generalize y.den / l = z4 at HO4 HM2
  clear x y hn hm hn' hm'
  go_enter Tryz.func185, Tryz.ntmps185
  go_upto_region 1 with fail
  generalize hX : ((w.alloc _).alloc _).alloc _ = X
  have hXX : Below w.heap.size w X ∧ w.heap.size + 3 = X.heap.size ∧ Wr4 (w.heap.size + 1 + 1) 185 X ∧ B4 w.heap.size (.bool b1) (.slice A n c) (.bool false) (.slice B m d) X ∧ B4 (w.heap.size + 1) (.bool b2) (.slice A' n' c') (.bool false) (.slice B' m' d') X := by
    subst hX
    obtain ⟨f1, f2, f3⟩ := frame4 w (.bool b1) (.slice A n c) (.bool false) (.slice B m d) (.bool b2) (.slice A' n' c') (.bool false) (.slice B' m' d') (.bool false) (.slice none 0 0) (.bool false) (.slice none 0 0)
    exact ⟨f1, f2, f3, by simp [B4, go_sem], by simp [B4, go_sem]⟩
  obtain ⟨hwX, hsX, hWX, hb4, hb4'⟩ := hXX
  have z0 : w.heap.size < X.heap.size := by omega
  have z1' : w.heap.size + 1 < X.heap.size := by omega
  have HS := Lib.hid hsX
  clear hX hsX
  have K4 := Lib.hid hb4
  have K4' := Lib.hid hb4'
  obtain ⟨k0, k1, k2, k3⟩ := hb4
  obtain ⟨j0, j1, j2, j3⟩ := hb4'
  go_cut [5] (fun s5 wx => ∃ Y : World, Y = wx ∧ Cut2 X l s5 Y)
  case first =>
    go_region_held3 (fun w' => w'.cell? ⟨w.heap.size, 0, none⟩ = some (.bool b1) ∧ w'.cell? ⟨w.heap.size, 1, none⟩ = some (.slice A n c) ∧ w'.cell? ⟨w.heap.size + 1, 0, none⟩ = some (.bool b2) ∧ w'.cell? ⟨w.heap.size + 1, 1, none⟩ = some (.slice A' n' c') ∧ w'.cell? ⟨w.heap.size + 1, 2, none⟩ = some (.bool false) ∧ w'.cell? ⟨w.heap.size + 1, 3, none⟩ = some (.slice B' m' d')) (simp [go_sem, World.cell?_alloc_past, *])
      (first
        | (go_at_call 189; (with_reducible refine (HLb.out _).mono ?_); rintro e w1 ⟨rfl, hB1⟩; (have R1 : Below X.heap.size X w1 := stepB (by repeat (first | exact Below.refl _ _ | refine Below.drew ?_ | refine Below.alloc ?_ (Nat.le_refl _) _)) hB1); have C1 := (bcell R1).1; obtain ⟨E1, E1f⟩ := bcell hB1; have v2 := hB1.size; (try simp at v2); (try (have v3 : X.heap.size < w1.heap.size := v2)); have W1 := hwX.trans (R1.mono hwX.size); have v0 := Nat.lt_of_lt_of_le z0 R1.size; have v1 := Nat.lt_of_lt_of_le z1' R1.size)
        | (go_at_call 213; (with_reducible refine (HG1.out _ (by repeat (first | exact W1 | refine Below.drew ?_ | refine Below.alloc ?_ W1.size _))).mono ?_); rintro e w2 ⟨L, nl, cl, rfl, hDl, hB2⟩; (have R2 : Below X.heap.size X w2 := stepB (by repeat (first | exact R1 | refine Below.drew ?_ | refine Below.alloc ?_ R1.size _)) hB2); have C2 := (bcell R2).1; obtain ⟨E2, E3⟩ := bcell hB2; have y2 := hB2.size; (try simp at y2); have y0 := Nat.lt_of_lt_of_le z0 R2.size; have y1 := Nat.lt_of_lt_of_le z1' R2.size))
    all_goals go_wp2_with fail
    · go_meet
      exact ⟨_, rfl, cut2_new hDl R2 (Drn.refl _)⟩
    · go_meet
      exact ⟨_, rfl, cut2_set rfl R1 hB2 hDl (Drn.refl _)⟩
    · go_meet
      exact ⟨_, rfl, cut2_set rfl (Below.refl _ _) (stepB (below_undrew' hB1) hB2) hDl (Drn.refl _)⟩
  case rest =>
    obtain ⟨Y, rfl, g5, L, nl, cl, rfl, hb5, hDl, hXY, hg5, hg5'⟩ := hcut
    have hwY := hwX.trans (hXY.mono hwX.size)
    have hWY := hWX.keep hXY
    have KY := Lib.hid (K4.out.keep z0 hXY)
    have KY' := Lib.hid (K4'.out.keep z1' hXY)
    have zz0 := Nat.lt_of_lt_of_le z0 hXY.size
    have zz1 := Nat.lt_of_lt_of_le z1' hXY.size
    have g5n : w.heap.size + 1 + 1 ≠ g5 := by have := HS.out; omega
    have yy2 : w.heap.size + 1 + 1 < Y.heap.size := by have := HS.out; have := hXY.size; omega
    clear k0 k1 k2 k3 j0 j1 j2 j3 hWX K4 K4' hXY hg5 z0 z1' HS
    obtain ⟨k0, k1, k2, k3⟩ := KY.out
    obtain ⟨j0, j1, j2, j3⟩ := KY'.out
    have HB5 := Lib.hid hb5
    clear hb5
    go_upto_region 2 with fail
    go_cut [6] (fun s6 wy => ∃ Z : World, Z = wy ∧ Cut2 Y r s6 Z)
    case first =>
      go_region_held3 (fun w' => w'.cell? ⟨w.heap.size, 0, none⟩ = some (.bool b1) ∧ w'.cell? ⟨w.heap.size, 1, none⟩ = some (.slice A n c) ∧ w'.cell? ⟨w.heap.size, 2, none⟩ = some (.bool false) ∧ w'.cell? ⟨w.heap.size, 3, none⟩ = some (.slice B m d) ∧ w'.cell? ⟨w.heap.size + 1, 0, none⟩ = some (.bool b2) ∧ w'.cell? ⟨w.heap.size + 1, 1, none⟩ = some (.slice A' n' c')) (simp [go_sem, World.cell?_alloc_past, *])
        (first
          | (go_at_call 189; (with_reducible refine (HLa.out _).mono ?_); rintro e w1 ⟨rfl, hB1⟩; (have R1 : Below Y.heap.size Y w1 := stepB (by repeat (first | exact Below.refl _ _ | refine Below.drew ?_ | refine Below.alloc ?_ (Nat.le_refl _) _)) hB1); have C1 := (bcell R1).1; obtain ⟨E1, E1f⟩ := bcell hB1; have v2 := hB1.size; (try simp at v2); (try (have v3 : Y.heap.size < w1.heap.size := v2)); have W1 := hwY.trans (R1.mono hwY.size); have v0 := Nat.lt_of_lt_of_le zz0 R1.size; have v1 := Nat.lt_of_lt_of_le zz1 R1.size)
          | (go_at_call 213; (with_reducible refine (HG2.out _ (by repeat (first | exact W1 | refine Below.drew ?_ | refine Below.alloc ?_ W1.size _))).mono ?_); rintro e w2 ⟨R, nr, cr, rfl, hDr, hB2⟩; (have R2 : Below Y.heap.size Y w2 := stepB (by repeat (first | exact R1 | refine Below.drew ?_ | refine Below.alloc ?_ R1.size _)) hB2); have C2 := (bcell R2).1; obtain ⟨E2, E3⟩ := bcell hB2; have y2 := hB2.size; (try simp at y2); have y0 := Nat.lt_of_lt_of_le zz0 R2.size; have y1 := Nat.lt_of_lt_of_le zz1 R2.size))
      all_goals go_wp2_with fail
      · go_meet
        exact ⟨_, rfl, cut2_new hDr R2 (Drn.refl _)⟩
      · go_meet
        exact ⟨_, rfl, cut2_set rfl R1 hB2 hDr (Drn.refl _)⟩
      · go_meet
        exact ⟨_, rfl, cut2_set rfl (Below.refl _ _) (stepB (below_undrew' hB1) hB2) hDr (Drn.refl _)⟩
    case rest =>
      obtain ⟨Z, rfl, g6, R, nr, cr, rfl, hb6, hDr, hYZ, hg6, hg6'⟩ := hcut
      have hwZ := hwY.trans (hYZ.mono hwY.size)
      have hWZ := hWY.keep hYZ
      have hDl' := hDl.keep hYZ
      have hb5' := HB5.out.keep hg5' hYZ
      have KZ := Lib.hid (KY.out.keep zz0 hYZ)
      have KZ' := Lib.hid (KY'.out.keep zz1 hYZ)
      have y0 := Nat.lt_of_lt_of_le zz0 hYZ.size
      have y1 := Nat.lt_of_lt_of_le zz1 hYZ.size
      have y5 := Nat.lt_of_lt_of_le hg5' hYZ.size
      have g6n : w.heap.size + 1 + 1 ≠ g6 := by omega
      clear k0 k1 k2 k3 j0 j1 j2 j3 hWY KY KY' hYZ hg6 zz0 zz1 hDl hg5' HB5
      obtain ⟨k0, k1, k2, k3⟩ := KZ.out
      obtain ⟨j0, j1, j2, j3⟩ := KZ'.out
      obtain ⟨i0, i1⟩ := hb5'
      obtain ⟨h0, h1⟩ := hb6
      go_upto_region 3 with fail
      clear KZ KZ' hwY hwX yy2
      go_region_held3 (fun w' => w'.cell? ⟨w.heap.size, 0, none⟩ = some (.bool b1) ∧ w'.cell? ⟨w.heap.size, 1, none⟩ = some (.slice A n c) ∧ w'.cell? ⟨w.heap.size, 2, none⟩ = some (.bool false) ∧ w'.cell? ⟨w.heap.size, 3, none⟩ = some (.slice B m d) ∧ w'.cell? ⟨w.heap.size + 1, 0, none⟩ = some (.bool b2) ∧ w'.cell? ⟨w.heap.size + 1, 1, none⟩ = some (.slice A' n' c') ∧ w'.cell? ⟨w.heap.size + 1, 2, none⟩ = some (.bool false) ∧ w'.cell? ⟨w.heap.size + 1, 3, none⟩ = some (.slice B' m' d') ∧ w'.cell? ⟨g5, 0, none⟩ = some (.bool false) ∧ w'.cell? ⟨g5, 1, none⟩ = some (.slice L nl cl) ∧ w'.cell? ⟨g6, 0, none⟩ = some (.bool false) ∧ w'.cell? ⟨g6, 1, none⟩ = some (.slice R nr cr)) (simp [go_sem, *])
        (first
          | (go_at_call 214; (with_reducible refine (HO1.out _ L nl cl (by first | exact hwZ | exact Below.drew hwZ) (by first | exact hDl' | exact D.drew (hDl'))).mono ?_); rintro e w3 ⟨p1, A1, n1, c1, rfl, hp1, hD1, hB3⟩; (have S3 : Below Z.heap.size Z w3 := by first | exact hB3 | exact below_undrew' hB3); have R3 := S3; have C3 := (bcell R3).1; have W3 := hwZ.trans (R3.mono hwZ.size))
          | (go_at_call 214; (with_reducible refine (HO2.out _ R nr cr (by first | exact W3 | exact Below.drew W3) (by first | exact hDr.keep R3 | exact D.drew (hDr.keep R3))).mono ?_); rintro e w4 ⟨p2, A2, n2, c2, rfl, hp2, hD2, hB4⟩; (have S4 : Below w3.heap.size w3 w4 := by first | exact hB4 | exact below_undrew' hB4); have R4 := stepB R3 S4; have C4 := (bcell R4).1; have W4 := hwZ.trans (R4.mono hwZ.size); have hD1b := hD1.keep S4)
          | (go_at_call 215; (with_reducible refine (HM1.out _ p1 A1 n1 c1 p2 A2 n2 c2 hp1 (by first | exact hD1b | exact D.drew (hD1b)) hp2 (by first | exact hD2 | exact D.drew (hD2))).mono ?_); rintro e w5 ⟨p3, A3, n3, c3, rfl, hp3, hD3, hB5⟩; (have S5 : Below w4.heap.size w4 w5 := by first | exact hB5 | exact below_undrew' hB5); have R5 := stepB R4 S5; have C5 := (bcell R5).1; have W5 := hwZ.trans (R5.mono hwZ.size))
          | (go_at_call 189; (with_reducible refine (HLa.out _).mono ?_); rintro e w6 ⟨rfl, hB6⟩; (have S6 : Below w5.heap.size w5 w6 := by first | exact hB6 | exact below_undrew' hB6); have R6 := stepB R5 S6; have C6 := (bcell R6).1; have W6 := hwZ.trans (R6.mono hwZ.size); have hD3b := hD3.keep S6)
          | (go_at_call 214; (with_reducible refine (HO3.out _ R nr cr (by first | exact W6 | exact Below.drew W6) (by first | exact hDr.keep R6 | exact D.drew (hDr.keep R6))).mono ?_); rintro e w7 ⟨A4, n4, c4, rfl, hD4, hB7⟩; (have S7 : Below w6.heap.size w6 w7 := by first | exact hB7 | exact below_undrew' hB7); have R7 := stepB R6 S7; have C7 := (bcell R7).1; have W7 := hwZ.trans (R7.mono hwZ.size); have hD3c := hD3b.keep S7)
          | (go_at_call 189; (with_reducible refine (HLb.out _).mono ?_); rintro e w8 ⟨rfl, hB8⟩; (have S8 : Below w7.heap.size w7 w8 := by first | exact hB8 | exact below_undrew' hB8); have R8 := stepB R7 S8; have C8 := (bcell R8).1; have W8 := hwZ.trans (R8.mono hwZ.size); have hD3d := hD3c.keep S8; have hD4b := hD4.keep S8)
          | (go_at_call 214; (with_reducible refine (HO4.out _ L nl cl (by first | exact W8 | exact Below.drew W8) (by first | exact hDl'.keep R8 | exact D.drew (hDl'.keep R8))).mono ?_); rintro e w9 ⟨A5, n5, c5, rfl, hD5, hB9⟩; (have S9 : Below w8.heap.size w8 w9 := by first | exact hB9 | exact below_undrew' hB9); have R9 := stepB R8 S9; have C9 := (bcell R9).1; have W9 := hwZ.trans (R9.mono hwZ.size); have hD3e := hD3d.keep S9; have hD4c := hD4b.keep S9)
          | (go_at_call 215; (with_reducible refine (HM2.out _ A4 n4 c4 A5 n5 c5 (by first | exact hD4c | exact D.drew (hD4c)) (by first | exact hD5 | exact D.drew (hD5))).mono ?_); rintro e w10 ⟨A6, n6, c6, rfl, hD6, hB10⟩; (have S10 : Below w9.heap.size w9 w10 := by first | exact hB10 | exact below_undrew' hB10); have R10 := stepB R9 S10; have C10 := (bcell R10).1; have W10 := hwZ.trans (R10.mono hwZ.size); have hD3f := hD3e.keep S10; obtain ⟨⟨o1, o2, o3, o4, o5, o6, o7, o8⟩, q1, q2, q3, q4, q5⟩ := hWZ.keep R10))
      all_goals go_wp2_with fail
      exact bodyPost_ret (v := .agg #[.bool p3, .slice A3 n3 c3, .bool false, .slice A6 n6 c6]) (by simp [results, Tryz.results185, go_sem, o5, o6, o7, o8]) rfl (retR_box' hp3.out hD3f hD6 q5 W10 (by omega))
end Go.Proofs.YtmfnpipmbpnfbaaGreatDoor
