/- A region whose order is drawn, whose last two operations store. -/
import Derived.Test.YtjoanclnaeephaaGreatMRd
namespace Go.Proofs.YtjoanclnaeephaaGreat
open Go Go.RowKit

section
variable {P : Program} {ops : Array Oper} {Q : Exit → Act → World → Prop}

/-- What operation n waits for, also through others. -/
def waited (ops : Array Oper) (n : Nat) : List Nat :=
  (List.range n).reverse.foldl (fun acc j => if acc.contains j then acc ++ onOf ops j else acc) (onOf ops n)
  where
  onOf (ops : Array Oper) (j : Nat) : List Nat := ((ops[j]?).map fun o => (o.after.toList.filter fun e => Region.binds .any e).map (·.on)).getD []

theorem mem_onOf {j x : Nat} (h : x ∈ waited.onOf ops j) : ∃ o, ops[j]? = some o ∧ ∃ e ∈ o.after, Region.binds .any e = true ∧ e.on = x := by
  unfold waited.onOf at h
  cases ho : ops[j]? with
  | none => rw [ho] at h; simp at h
  | some o =>
    rw [ho] at h
    simp only [Option.map_some, Option.getD_some, List.mem_map, List.mem_filter] at h
    obtain ⟨e, ⟨he, hb⟩, hx⟩ := h
    exact ⟨o, rfl, e, Array.mem_toList_iff.1 he, hb, hx⟩

theorem waited_done {b : Nat → Bool} {n : Nat} {o : Oper} (ho : ops[n]? = some o) (hdep : ∀ e ∈ o.after, Region.binds .any e = true → b e.on = true) (hc : ∀ j o, ops[j]? = some o → b j = true → ∀ e ∈ o.after, Region.binds .any e = true → b e.on = true) :
    ∀ x ∈ waited ops n, b x = true := by
  have key : ∀ (L : List Nat) (acc : List Nat), (∀ x ∈ acc, b x = true) → ∀ x ∈ L.foldl (fun acc j => if acc.contains j then acc ++ waited.onOf ops j else acc) acc, b x = true := by
    intro L
    induction L with
    | nil => intro acc h; exact h
    | cons j L ih =>
      intro acc h
      rw [List.foldl_cons]
      refine ih _ ?_
      split
      · rename_i hj
        intro x hx
        rcases List.mem_append.1 hx with hx | hx
        · exact h x hx
        · obtain ⟨o', ho', e, he, hb, rfl⟩ := mem_onOf hx
          exact hc j o' ho' (h j (by simpa using hj)) e he hb
      · exact h
  refine key _ _ fun x hx => ?_
  obtain ⟨o', ho', e, he, hb, rfl⟩ := mem_onOf hx
  rw [ho] at ho'
  injection ho' with ho'
  subst ho'
  exact hdep e he hb

/-- Every operation but the last two makes a value; the last two store, one after the other, after all others. -/
theorem wp_region_flow_store2 {id : Nat} {T : Array Value} {df : List Deferred} {w : World} (n : Nat) (S : List Nat) (d : Nat → Nat) (Fix End : World → Prop) (Mid : (Nat → Value) → World → Prop) (G : Nat → Value → World → Prop)
    (hm : P.follows .mixedOrders = true) (hf : forward .any ops = true) (hS : S.all (fun j => decide (j < T.size)) = true) (hn : ops.size = n + 2)
    (hw : ((List.range n).all fun i => (waited ops n).contains i) = true) (hw2 : (waited.onOf ops (n + 1)).contains n = true)
    (hd : ∀ i j, i < n → j < n → d i = d j → i = j) (hdS : ∀ i, i < n → d i ∈ S)
    (hkeep : ∀ wx wy, Fix wx → Below wx.heap.size wx wy → Fix wy) (hG : ∀ i u wx wy, Below wx.heap.size wx wy → G i u wx → G i u wy)
    (h0 : Fix w.drew)
    (hstep : ∀ (i : Nat) (v : Nat → Value) (wx : World) (o : Oper) (T' : Array Value) (K : Act → World → Prop), i < n → ops[i]? = some o → Fix wx → (∀ e ∈ o.after, Region.binds .any e = true → G e.on (v (d e.on)) wx) →
      (∀ j, j ∈ S → T'[j]? = some (v j)) → (∀ j, j ∉ S → T'[j]? = T[j]?) →
      (∀ x w', Below wx.heap.size wx w' → G i x w' → K ⟨T'.setIfInBounds (d i) x, df⟩ w') →
      if Region.wanted o (yielded ops T') = true then Oper.wp P o ⟨T', df⟩ wx K Q else K (Act.put ⟨T', df⟩ o.dst undef) wx)
    (hstore1 : ∀ (v : Nat → Value) (wx : World) (o : Oper) (T' : Array Value) (K : Act → World → Prop), ops[n]? = some o → Fix wx → (∀ i, i < n → G i (v (d i)) wx) →
      (∀ j, j ∈ S → T'[j]? = some (v j)) → (∀ j, j ∉ S → T'[j]? = T[j]?) → (∀ w', Mid v w' → K ⟨T', df⟩ w') →
      if Region.wanted o (yielded ops T') = true then Oper.wp P o ⟨T', df⟩ wx K Q else K (Act.put ⟨T', df⟩ o.dst undef) wx)
    (hstore2 : ∀ (v : Nat → Value) (wx : World) (o : Oper) (T' : Array Value) (K : Act → World → Prop), ops[n + 1]? = some o → Mid v wx →
      (∀ j, j ∈ S → T'[j]? = some (v j)) → (∀ j, j ∉ S → T'[j]? = T[j]?) → (∀ w', End w' → K ⟨T', df⟩ w') →
      if Region.wanted o (yielded ops T') = true then Oper.wp P o ⟨T', df⟩ wx K Q else K (Act.put ⟨T', df⟩ o.dst undef) wx)
    (hend : ∀ (v : Nat → Value) (wx : World), End wx → Q .normal ⟨over T S v, df⟩ wx) :
    (Code.region id ops true).wp P Q ⟨T, df⟩ w := by
  refine wp_region_inv3 S (fun b v wx => (∀ j o, ops[j]? = some o → b j = true → ∀ e ∈ o.after, Region.binds .any e = true → b e.on = true) ∧ (b n = false → b (n + 1) = false ∧ Fix wx ∧ ∀ i, i < n → b i = true → G i (v (d i)) wx) ∧
    (b n = true → (∀ i, i < n → b i = true) ∧ (b (n + 1) = false → Mid v wx) ∧ (b (n + 1) = true → End wx))) hm hf hS ⟨fun _ _ _ h => Bool.noConfusion h, fun _ => ⟨rfl, h0, fun _ _ h => Bool.noConfusion h⟩, fun h => Bool.noConfusion h⟩ ?_ ?_
  · rintro i b v wx o T' K ho hdep hb ⟨hc, h1, h2⟩ hin hout hK hK'
    have hi : i < n + 2 := by rw [← hn]; exact (Array.getElem?_eq_some_iff.1 ho).1
    have hon : ∀ j o, ops[j]? = some o → ∀ e ∈ o.after, Region.binds .any e = true → e.on < j := fun j o ho e he hbd => by
      have hj : j < ops.size := (Array.getElem?_eq_some_iff.1 ho).1
      have h := List.all_eq_true.1 hf j (List.mem_range.2 hj)
      simp only [ho, Option.map_some, Option.getD_some] at h
      have h2 := (Array.all_eq_true_iff_forall_mem.1 h) e he
      simpa [hbd] using h2
    have hc' : ∀ j o, ops[j]? = some o → updB b i j = true → ∀ e ∈ o.after, Region.binds .any e = true → updB b i e.on = true := fun j o' ho' hj e he hbd => by
      have keep : ∀ k, b k = true → updB b i k = true := fun k hk => by
        unfold updB
        split
        · rfl
        · exact hk
      by_cases e1 : j = i
      · subst e1
        rw [ho] at ho'
        injection ho' with ho'
        subst ho'
        exact keep _ (hdep e he hbd)
      · unfold updB at hj
        rw [if_neg e1] at hj
        exact keep _ (hc j o' ho' hj e he hbd)
    have hbi : ∀ j, j ≠ i → updB b i j = b j := fun j hj => by unfold updB; rw [if_neg hj]
    have hbs : updB b i i = true := by unfold updB; rw [if_pos rfl]
    by_cases hl : i < n
    · have hbn : b n = false := by
        cases hbn : b n with
        | false => rfl
        | true => exact absurd ((h2 hbn).1 i hl) (by rw [hb]; decide)
      obtain ⟨hb1, hF, hall⟩ := h1 hbn
      refine hstep i v wx o T' K hl ho hF (fun e he hbd => hall _ (Nat.lt_trans (hon i o ho e he hbd) hl) (hdep e he hbd)) hin hout (fun x w' hB hx => hK _ _ _ (hdS i hl) ⟨hc', fun _ => ⟨by rw [hbi _ (by omega)]; exact hb1, hkeep _ _ hF hB, fun j hj hbj => ?_⟩, fun h => ?_⟩)
      · by_cases e : j = i
        · subst e
          have e2 : updV v (d j) x (d j) = x := by unfold updV; rw [if_pos rfl]
          rw [e2]
          exact hx
        · rw [updV_other hd hl hj e]
          rw [hbi _ e] at hbj
          exact hG _ _ _ _ hB (hall j hj hbj)
      · rw [hbi _ (by omega), hbn] at h
        exact Bool.noConfusion h
    · by_cases hl2 : i = n
      · subst hl2
        obtain ⟨hb1, hF, hall⟩ := h1 hb
        have hdone : ∀ j, j < i → b j = true := fun j hj => waited_done ho hdep hc j (by simpa using List.all_eq_true.1 hw j (List.mem_range.2 hj))
        refine hstore1 v wx o T' K ho hF (fun j hj => hall j hj (hdone j hj)) hin hout (fun w' hM => hK' _ ⟨hc', fun h => ?_, fun _ => ⟨fun j hj => by rw [hbi _ (by omega)]; exact hdone j hj, fun _ => hM, fun h => ?_⟩⟩)
        · rw [hbs] at h
          exact Bool.noConfusion h
        · rw [hbi _ (by omega), hb1] at h
          exact Bool.noConfusion h
      · have hi2 : i = n + 1 := by omega
        subst hi2
        have hbn : b n = true := by
          obtain ⟨o', ho', e, he, hbd, hx⟩ := mem_onOf (show n ∈ waited.onOf ops (n + 1) by simpa using hw2)
          rw [ho] at ho'
          injection ho' with ho'
          subst ho'
          rw [← hx]
          exact hdep e he hbd
        obtain ⟨hall, hM, -⟩ := h2 hbn
        refine hstore2 v wx o T' K ho (hM hb) hin hout (fun w' hE => hK' _ ⟨hc', fun h => ?_, fun _ => ⟨fun j hj => by rw [hbi _ (by omega)]; exact hall j hj, fun h => ?_, fun _ => hE⟩⟩)
        · rw [hbi _ (by omega), hbn] at h
          exact Bool.noConfusion h
        · rw [hbs] at h
          exact Bool.noConfusion h
  · rintro b v wx hb ⟨-, -, h2⟩
    exact hend v wx ((h2 (hb n (by omega))).2.2 (hb (n + 1) (by omega)))

/-- Every operation but the last two makes a value; the last but one stores, the last one lays a constant into slot s2. -/
theorem wp_region_flow_put {id : Nat} {T : Array Value} {df : List Deferred} {w : World} (n : Nat) (s2 : Nat) (c2 : Value) (S : List Nat) (d : Nat → Nat) (Fix End : World → Prop) (Mid : (Nat → Value) → World → Prop) (G : Nat → Value → World → Prop)
    (hm : P.follows .mixedOrders = true) (hf : forward .any ops = true) (hS : S.all (fun j => decide (j < T.size)) = true) (hn : ops.size = n + 2)
    (hw : ((List.range n).all fun i => (waited ops n).contains i) = true) (hw2 : (waited.onOf ops (n + 1)).contains n = true)
    (hs2 : s2 ∈ S) (hd : ∀ i j, i < n → j < n → d i = d j → i = j) (hdS : ∀ i, i < n → d i ∈ S)
    (hkeep : ∀ wx wy, Fix wx → Below wx.heap.size wx wy → Fix wy) (hG : ∀ i u wx wy, Below wx.heap.size wx wy → G i u wx → G i u wy)
    (h0 : Fix w.drew)
    (hstep : ∀ (i : Nat) (v : Nat → Value) (wx : World) (o : Oper) (T' : Array Value) (K : Act → World → Prop), i < n → ops[i]? = some o → Fix wx → (∀ e ∈ o.after, Region.binds .any e = true → G e.on (v (d e.on)) wx) →
      (∀ j, j ∈ S → T'[j]? = some (v j)) → (∀ j, j ∉ S → T'[j]? = T[j]?) →
      (∀ x w', Below wx.heap.size wx w' → G i x w' → K ⟨T'.setIfInBounds (d i) x, df⟩ w') →
      if Region.wanted o (yielded ops T') = true then Oper.wp P o ⟨T', df⟩ wx K Q else K (Act.put ⟨T', df⟩ o.dst undef) wx)
    (hstore1 : ∀ (v : Nat → Value) (wx : World) (o : Oper) (T' : Array Value) (K : Act → World → Prop), ops[n]? = some o → Fix wx → (∀ i, i < n → G i (v (d i)) wx) →
      (∀ j, j ∈ S → T'[j]? = some (v j)) → (∀ j, j ∉ S → T'[j]? = T[j]?) → (∀ w', Mid v w' → K ⟨T', df⟩ w') →
      if Region.wanted o (yielded ops T') = true then Oper.wp P o ⟨T', df⟩ wx K Q else K (Act.put ⟨T', df⟩ o.dst undef) wx)
    (hstore2 : ∀ (v : Nat → Value) (wx : World) (o : Oper) (T' : Array Value) (K : Act → World → Prop), ops[n + 1]? = some o → Mid v wx →
      (∀ j, j ∈ S → T'[j]? = some (v j)) → (∀ j, j ∉ S → T'[j]? = T[j]?) → (∀ w', End w' → K ⟨T'.setIfInBounds s2 c2, df⟩ w') →
      if Region.wanted o (yielded ops T') = true then Oper.wp P o ⟨T', df⟩ wx K Q else K (Act.put ⟨T', df⟩ o.dst undef) wx)
    (hend : ∀ (v : Nat → Value) (wx : World), v s2 = c2 → End wx → Q .normal ⟨over T S v, df⟩ wx) :
    (Code.region id ops true).wp P Q ⟨T, df⟩ w := by
  refine wp_region_inv3 S (fun b v wx => (∀ j o, ops[j]? = some o → b j = true → ∀ e ∈ o.after, Region.binds .any e = true → b e.on = true) ∧ (b n = false → b (n + 1) = false ∧ Fix wx ∧ ∀ i, i < n → b i = true → G i (v (d i)) wx) ∧
    (b n = true → (∀ i, i < n → b i = true) ∧ (b (n + 1) = false → Mid v wx) ∧ (b (n + 1) = true → v s2 = c2 ∧ End wx))) hm hf hS ⟨fun _ _ _ h => Bool.noConfusion h, fun _ => ⟨rfl, h0, fun _ _ h => Bool.noConfusion h⟩, fun h => Bool.noConfusion h⟩ ?_ ?_
  · rintro i b v wx o T' K ho hdep hb ⟨hc, h1, h2⟩ hin hout hK hK'
    have hi : i < n + 2 := by rw [← hn]; exact (Array.getElem?_eq_some_iff.1 ho).1
    have hon : ∀ j o, ops[j]? = some o → ∀ e ∈ o.after, Region.binds .any e = true → e.on < j := fun j o ho e he hbd => by
      have hj : j < ops.size := (Array.getElem?_eq_some_iff.1 ho).1
      have h := List.all_eq_true.1 hf j (List.mem_range.2 hj)
      simp only [ho, Option.map_some, Option.getD_some] at h
      have h2 := (Array.all_eq_true_iff_forall_mem.1 h) e he
      simpa [hbd] using h2
    have hc' : ∀ j o, ops[j]? = some o → updB b i j = true → ∀ e ∈ o.after, Region.binds .any e = true → updB b i e.on = true := fun j o' ho' hj e he hbd => by
      have keep : ∀ k, b k = true → updB b i k = true := fun k hk => by
        unfold updB
        split
        · rfl
        · exact hk
      by_cases e1 : j = i
      · subst e1
        rw [ho] at ho'
        injection ho' with ho'
        subst ho'
        exact keep _ (hdep e he hbd)
      · unfold updB at hj
        rw [if_neg e1] at hj
        exact keep _ (hc j o' ho' hj e he hbd)
    have hbi : ∀ j, j ≠ i → updB b i j = b j := fun j hj => by unfold updB; rw [if_neg hj]
    have hbs : updB b i i = true := by unfold updB; rw [if_pos rfl]
    by_cases hl : i < n
    · have hbn : b n = false := by
        cases hbn : b n with
        | false => rfl
        | true => exact absurd ((h2 hbn).1 i hl) (by rw [hb]; decide)
      obtain ⟨hb1, hF, hall⟩ := h1 hbn
      refine hstep i v wx o T' K hl ho hF (fun e he hbd => hall _ (Nat.lt_trans (hon i o ho e he hbd) hl) (hdep e he hbd)) hin hout (fun x w' hB hx => hK _ _ _ (hdS i hl) ⟨hc', fun _ => ⟨by rw [hbi _ (by omega)]; exact hb1, hkeep _ _ hF hB, fun j hj hbj => ?_⟩, fun h => ?_⟩)
      · by_cases e : j = i
        · subst e
          have e2 : updV v (d j) x (d j) = x := by unfold updV; rw [if_pos rfl]
          rw [e2]
          exact hx
        · rw [updV_other hd hl hj e]
          rw [hbi _ e] at hbj
          exact hG _ _ _ _ hB (hall j hj hbj)
      · rw [hbi _ (by omega), hbn] at h
        exact Bool.noConfusion h
    · by_cases hl2 : i = n
      · subst hl2
        obtain ⟨hb1, hF, hall⟩ := h1 hb
        have hdone : ∀ j, j < i → b j = true := fun j hj => waited_done ho hdep hc j (by simpa using List.all_eq_true.1 hw j (List.mem_range.2 hj))
        refine hstore1 v wx o T' K ho hF (fun j hj => hall j hj (hdone j hj)) hin hout (fun w' hM => hK' _ ⟨hc', fun h => ?_, fun _ => ⟨fun j hj => by rw [hbi _ (by omega)]; exact hdone j hj, fun _ => hM, fun h => ?_⟩⟩)
        · rw [hbs] at h
          exact Bool.noConfusion h
        · rw [hbi _ (by omega), hb1] at h
          exact Bool.noConfusion h
      · have hi2 : i = n + 1 := by omega
        subst hi2
        have hbn : b n = true := by
          obtain ⟨o', ho', e, he, hbd, hx⟩ := mem_onOf (show n ∈ waited.onOf ops (n + 1) by simpa using hw2)
          rw [ho] at ho'
          injection ho' with ho'
          subst ho'
          rw [← hx]
          exact hdep e he hbd
        obtain ⟨hall, hM, -⟩ := h2 hbn
        refine hstore2 v wx o T' K ho (hM hb) hin hout (fun w' hE => hK _ _ _ hs2 ⟨hc', fun h => ?_, fun _ => ⟨fun j hj => by rw [hbi _ (by omega)]; exact hall j hj, fun h => ?_, fun _ => ⟨by unfold updV; rw [if_pos rfl], hE⟩⟩⟩)
        · rw [hbi _ (by omega), hbn] at h
          exact Bool.noConfusion h
        · rw [hbs] at h
          exact Bool.noConfusion h
  · rintro b v wx hb ⟨-, -, h2⟩
    have := (h2 (hb n (by omega))).2.2 (hb (n + 1) (by omega))
    exact hend v wx this.1 this.2
end

end Go.Proofs.YtjoanclnaeephaaGreat
