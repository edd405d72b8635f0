/- A region whose order is drawn, by an invariant of its states. -/
import Derived.RegionTactic
import Derived.Orders

namespace Go.Proofs.Ytfhmhkbjcccejaa
open Go

section
variable {P : Program} {ops : Array Oper} {Q : Exit → Act → World → Prop} {md : Region.Mode}

/-- How many have not come up yet. -/
def lacks (ops : Array Oper) (listed : Array Bool) : Nat := (List.range ops.size).countP fun i => !listed.getD i true

theorem countP_lt {α : Type} {p q : α → Bool} : ∀ (l : List α), (∀ x ∈ l, q x = true → p x = true) → (∃ x ∈ l, p x = true ∧ q x = false) → l.countP q < l.countP p
  | [], _, ⟨x, hx, _⟩ => by cases hx
  | y :: l, h, ⟨x, hx, hp, hq⟩ => by
    have h1 : l.countP q ≤ l.countP p := List.countP_mono_left fun z hz hqz => h z (List.mem_cons_of_mem _ hz) hqz
    rcases List.mem_cons.1 hx with rfl | hx'
    · rw [List.countP_cons_of_pos hp, List.countP_cons_of_neg (by simp [hq])]
      omega
    · have h2 := countP_lt l (fun z hz => h z (List.mem_cons_of_mem _ hz)) ⟨x, hx', hp, hq⟩
      rw [List.countP_cons, List.countP_cons]
      have h3 := h y List.mem_cons_self
      cases hy : q y
      · simp; omega
      · simp [h3 hy]; omega

theorem lacks_set {listed : Array Bool} {i : Nat} (h : i ∈ Region.ready md ops listed) : lacks ops (listed.setIfInBounds i true) < lacks ops listed := by
  obtain ⟨h0, o, ho, hall⟩ := mem_ready.1 h
  have hlt : i < ops.size := (Array.getElem?_eq_some_iff.1 ho).1
  refine countP_lt _ (fun j _ hj => ?_) ⟨i, List.mem_range.2 hlt, by simp [h0], ?_⟩
  · by_cases e : j = i
    · subst e
      simp [h0]
    · rw [getD_set_ne true (Ne.symm e)] at hj
      exact hj
  · have hs : i < listed.size := by
      rcases Nat.lt_or_ge i listed.size with h' | h'
      · exact h'
      · simp [Array.getElem?_eq_none h'] at h0
    simp [hs]

/-- Whatever order is drawn: what holds at the beginning and is kept by each operation holds at the end. -/
theorem wpAny_inv (I : Array Bool → Act → World → Prop)
    (hstep : ∀ listed a w i, I listed a w → i ∈ Region.ready md ops listed → wpOp P ops Q i (fun a' w' => I (listed.setIfInBounds i true) a' w') a w)
    (hend : ∀ listed a w, I listed a w → Region.ready md ops listed = [] → Q .normal a w) :
    ∀ (fuel : Nat) (listed : Array Bool) (a : Act) (w : World), lacks ops listed ≤ fuel → I listed a w → wpAny P md ops Q fuel listed a w := by
  intro fuel
  induction fuel with
  | zero =>
    intro listed a w hl hI
    have hr : Region.ready md ops listed = [] := by
      cases hr : Region.ready md ops listed with
      | nil => rfl
      | cons i is =>
        have := lacks_set (md := md) (ops := ops) (listed := listed) (i := i) (by rw [hr]; exact List.mem_cons_self)
        omega
    exact ⟨hr, hend _ _ _ hI hr⟩
  | succ fuel ih =>
    intro listed a w hl hI
    refine ⟨fun hr => hend _ _ _ hI hr, fun i hi => ?_⟩
    refine wpOp_mono (fun a' w' h' => ih _ a' w' ?_ h') (hstep listed a w i hI hi)
    have := lacks_set hi
    omega

/-- The beginning. -/
theorem wp_region_inv {id : Nat} {a : Act} {w : World} (hm : P.follows .mixedOrders = true) (I : Array Bool → Act → World → Prop)
    (h0 : I (Array.replicate ops.size false) a w.drew)
    (hstep : ∀ listed a w i, I listed a w → i ∈ Region.ready .any ops listed → wpOp P ops Q i (fun a' w' => I (listed.setIfInBounds i true) a' w') a w)
    (hend : ∀ listed a w, I listed a w → Region.ready .any ops listed = [] → Q .normal a w) : (Code.region id ops true).wp P Q a w :=
  wp_region_any hm (wpAny_inv I hstep hend _ _ _ _ (Nat.le_trans List.countP_le_length (by simp)) h0)

end
end Go.Proofs.Ytfhmhkbjcccejaa
