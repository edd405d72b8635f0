/- A region whose order is drawn, by an invariant of its states: the slots that it writes by a function of values. -/
import Derived.Test.YtfhmhkbjcccejaaMInv
import Derived.KernelRfl

namespace Go.Proofs.Ytfhmhkbjcccejaa
open Go

/-- The slots overwritten. -/
def over (T : Array Value) : List Nat → (Nat → Value) → Array Value
  | [], _ => T
  | d :: S, v => (over T S v).setIfInBounds d (v d)

def updV (v : Nat → Value) (d : Nat) (x : Value) : Nat → Value := fun j => if j = d then x else v j
def updB (b : Nat → Bool) (i : Nat) : Nat → Bool := fun j => if j = i then true else b j

theorem over_size (T : Array Value) : ∀ (S : List Nat) (v : Nat → Value), (over T S v).size = T.size
  | [], _ => rfl
  | d :: S, v => by rw [over, Array.size_setIfInBounds]; exact over_size T S v

theorem over_get (T : Array Value) (v : Nat → Value) : ∀ (S : List Nat) (j : Nat), (over T S v)[j]? = if j ∈ S ∧ j < T.size then some (v j) else T[j]?
  | [], j => by simp [over]
  | d :: S, j => by
    rw [over, Array.getElem?_setIfInBounds, over_size, over_get T v S j]
    by_cases e : d = j
    · subst e
      by_cases h : d < T.size
      · simp [h]
      · simp [h]
    · have e' : ¬ j = d := fun h => e h.symm
      simp [e, e']

theorem over_set (T : Array Value) (v : Nat → Value) (S : List Nat) (d : Nat) (x : Value) (hd : d ∈ S) : (over T S v).setIfInBounds d x = over T S (updV v d x) := by
  apply Array.ext_getElem?
  intro j
  rw [Array.getElem?_setIfInBounds, over_size, over_get, over_get]
  by_cases e : d = j
  · subst e
    by_cases h : d < T.size
    · simp [h, hd, updV]
    · simp [h]
  · have e' : ¬ j = d := fun h => e h.symm
    simp [e, e', updV]

theorem over_self (T : Array Value) (S : List Nat) : over T S (fun j => T.getD j undef) = T := by
  apply Array.ext_getElem?
  intro j
  rw [over_get]
  split
  · rename_i h
    simp [h.2]
  · rfl

theorem over_in {T : Array Value} {v : Nat → Value} {S : List Nat} {j : Nat} (h : j ∈ S) (hs : j < T.size) : (over T S v)[j]? = some (v j) := by
  rw [over_get, if_pos ⟨h, hs⟩]
theorem over_out {T : Array Value} {v : Nat → Value} {S : List Nat} {j : Nat} (h : j ∉ S) : (over T S v)[j]? = T[j]? := by
  rw [over_get, if_neg (fun g => h g.1)]

/-- Each operation waits for earlier ones only. -/
def forward (md : Region.Mode) (ops : Array Oper) : Bool := (List.range ops.size).all fun i => ((ops[i]?).map (·.after.all fun e => !Region.binds md e || decide (e.on < i))).getD true

section
variable {P : Program} {ops : Array Oper} {Q : Exit → Act → World → Prop} {md : Region.Mode}

theorem all_listed (hf : forward md ops = true) {listed : Array Bool} (hr : Region.ready md ops listed = []) : ∀ i, i < ops.size → listed.getD i true = true := by
  intro i
  induction i using Nat.strongRecOn with
  | _ i ih =>
    intro hi
    cases hb : listed.getD i true with
    | true => rfl
    | false =>
      have ho : ops[i]? = some ops[i] := by simp [hi]
      have hfi : ∀ e ∈ (ops[i]).after, Region.binds md e = true → e.on < i := by
        have h := List.all_eq_true.1 hf i (List.mem_range.2 hi)
        simp only [ho, Option.map_some, Option.getD_some] at h
        intro e he hb
        have h2 := (Array.all_eq_true_iff_forall_mem.1 h) e he
        simpa [hb] using h2
      have hm : i ∈ Region.ready md ops listed := mem_ready.2 ⟨hb, ops[i], ho, fun e he hbd => by
        have hlt := hfi e he hbd
        have h3 := ih e.on hlt (by omega)
        -- listed.getD e.on true = true, and it is inside
        have hs : i < listed.size := by
          rcases Nat.lt_or_ge i listed.size with h' | h'
          · exact h'
          · simp [Array.getElem?_eq_none h'] at hb
        have hs2 : e.on < listed.size := by omega
        simp [hs2] at h3 ⊢
        exact h3⟩
      rw [hr] at hm
      cases hm

/-- The region by an invariant: which operations have come up, what they have written, the world. -/
theorem wp_region_inv2 {id : Nat} {T : Array Value} {df : List Deferred} {w : World} (S : List Nat) (J : (Nat → Bool) → (Nat → Value) → World → Prop)
    (hm : P.follows .mixedOrders = true) (hf : forward .any ops = true)
    (h0 : J (fun _ => false) (fun j => T.getD j undef) w.drew)
    (hstep : ∀ (i : Nat) (b : Nat → Bool) (v : Nat → Value) (wx : World), i < ops.size → (∀ o, ops[i]? = some o → ∀ e ∈ o.after, Region.binds .any e = true → b e.on = true) → b i = false → J b v wx →
      wpOp P ops Q i (fun a' w' => ∃ v', a' = ⟨over T S v', df⟩ ∧ J (updB b i) v' w') ⟨over T S v, df⟩ wx)
    (hend : ∀ (b : Nat → Bool) (v : Nat → Value) (wx : World), (∀ i, i < ops.size → b i = true) → J b v wx → Q .normal ⟨over T S v, df⟩ wx) :
    (Code.region id ops true).wp P Q ⟨T, df⟩ w := by
  refine wp_region_inv hm (fun listed a w' => listed.size = ops.size ∧ ∃ v, a = ⟨over T S v, df⟩ ∧ J (fun i => listed.getD i false) v w') ?_ ?_ ?_
  · refine ⟨by simp, fun j => T.getD j undef, by rw [over_self], ?_⟩
    have e : (fun i => (Array.replicate ops.size false).getD i false) = fun _ => false := by
      funext i
      by_cases h : i < ops.size <;> simp [h]
    rw [e]
    exact h0
  · rintro listed a wx i ⟨hs, v, rfl, hJ⟩ hi
    obtain ⟨hu, o, ho, hall⟩ := mem_ready.1 hi
    have hlt : i < ops.size := (Array.getElem?_eq_some_iff.1 ho).1
    have hlt' : i < listed.size := by omega
    have hu' : listed.getD i false = false := by
      simp [hlt'] at hu ⊢
      exact hu
    refine wpOp_mono ?_ (hstep i (fun i => listed.getD i false) v wx hlt (fun o' ho' => by rw [ho] at ho'; injection ho' with ho'; subst ho'; exact hall) hu' hJ)
    rintro a' w' ⟨v', rfl, hJ'⟩
    refine ⟨by simpa using hs, v', rfl, ?_⟩
    have e : (fun j => (listed.setIfInBounds i true).getD j false) = updB (fun i => listed.getD i false) i := by
      funext j
      unfold updB
      by_cases e : j = i
      · subst e
        simp [hlt']
      · rw [getD_set_ne false (Ne.symm e), if_neg e]
    rw [e]
    exact hJ'
  · rintro listed a wx ⟨hs, v, rfl, hJ⟩ hr
    refine hend _ v wx (fun i hi => ?_) hJ
    have := all_listed hf hr i hi
    have hlt' : i < listed.size := by omega
    simp [hlt'] at this ⊢
    exact this

/-- The same, the state's array under a name; the slots are all inside it. -/
theorem wp_region_inv3 {id : Nat} {T : Array Value} {df : List Deferred} {w : World} (S : List Nat) (J : (Nat → Bool) → (Nat → Value) → World → Prop)
    (hm : P.follows .mixedOrders = true) (hf : forward .any ops = true) (hS : S.all (fun j => decide (j < T.size)) = true)
    (h0 : J (fun _ => false) (fun j => T.getD j undef) w.drew)
    (hstep : ∀ (i : Nat) (b : Nat → Bool) (v : Nat → Value) (wx : World) (o : Oper) (T' : Array Value) (K : Act → World → Prop), ops[i]? = some o → (∀ e ∈ o.after, Region.binds .any e = true → b e.on = true) → b i = false → J b v wx →
      (∀ j, j ∈ S → T'[j]? = some (v j)) → (∀ j, j ∉ S → T'[j]? = T[j]?) →
      (∀ d x w', d ∈ S → J (updB b i) (updV v d x) w' → K ⟨T'.setIfInBounds d x, df⟩ w') → (∀ w', J (updB b i) v w' → K ⟨T', df⟩ w') →
      if Region.wanted o (yielded ops T') = true then Oper.wp P o ⟨T', df⟩ wx K Q else K (Act.put ⟨T', df⟩ o.dst undef) wx)
    (hend : ∀ (b : Nat → Bool) (v : Nat → Value) (wx : World), (∀ i, i < ops.size → b i = true) → J b v wx → Q .normal ⟨over T S v, df⟩ wx) :
    (Code.region id ops true).wp P Q ⟨T, df⟩ w := by
  refine wp_region_inv2 S J hm hf h0 (fun i b v wx hi hd hb hJ => ?_) hend
  have ho : ops[i]? = some ops[i] := by simp [hi]
  refine wpOp_step ho (fun K hK => ?_)
  refine hstep i b v wx _ _ K ho (hd _ ho) hb hJ (fun j hj => over_in hj (of_decide_eq_true (List.all_eq_true.1 hS j hj))) (fun j hj => over_out hj) (fun d x w' hd hJ' => hK _ _ ⟨updV v d x, ?_, hJ'⟩) (fun w' hJ' => hK _ _ ⟨v, rfl, hJ'⟩)
  rw [over_set T v S d x hd]

end
end Go.Proofs.Ytfhmhkbjcccejaa
