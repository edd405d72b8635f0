/- Numbers that are valid, of the reference. The reference's Make of two ints. A region whose order is drawn, whose last two operations store. -/
import Derived.Test.YtfhmhkbjcccejaaGreatDoorZ38
import Derived.Test.YtfhmhkbjcccejaaGreatDoorZ27
import Derived.Test.YtfhmhkbjcccejaaGreatDoorZ25

namespace Go.Proofs.YtfhmhkbjcccejaaGreatDoor
open Go.RowKit

/-- The box of one number. -/
structure FB2 (w : World) (a b : Value) (wx : World) : Prop where
  below : Below w.heap.size w wx
  ba : B2n w.heap.size a b wx
theorem FB2.keep {w : World} {a b : Value} (wx wy : World) (h : FB2 w a b wx) (hb : Below wx.heap.size wx wy) : FB2 w a b wy :=
  ⟨h.below.trans (hb.mono h.below.size), h.ba.keep hb⟩
theorem FB2.new (w : World) (a b : Value) : FB2 w a b (w.alloc (.cells #[a, b] 23)) :=
  ⟨(Below.refl _ _).alloc (Nat.le_refl _) _, by simp [B2n, go_sem]⟩

set_option maxRecDepth 100000 in
set_option maxHeartbeats 20000000 in
theorem rvalid_bad0 (t l : Int) (w : World) (g0 : decide (l < 1) = true) : Calls Tryz.prog 13 #[.agg #[.int .i64 t, .int .i64 l]] w fun e w' => e = .returned (.bool false) ∧ Below w.heap.size w w' := by
  go_enter Tryz.func13, Tryz.ntmps13
  go_wp2_with fail
  go_ret
  exact ⟨rfl, below_alloc _ _⟩

set_option maxRecDepth 100000 in
set_option maxHeartbeats 20000000 in
theorem rvalid_bad1 (t l : Int) (w : World) (g0 : decide (l < 1) = false) (g1 : decide (1152921504606846976 < l) = true) : Calls Tryz.prog 13 #[.agg #[.int .i64 t, .int .i64 l]] w fun e w' => e = .returned (.bool false) ∧ Below w.heap.size w w' := by
  go_enter Tryz.func13, Tryz.ntmps13
  go_wp2_with fail
  go_ret
  exact ⟨rfl, below_alloc _ _⟩

set_option maxRecDepth 100000 in
set_option maxHeartbeats 20000000 in
theorem rvalid_bad2 (t l : Int) (w : World) (g0 : decide (l < 1) = false) (g1 : decide (1152921504606846976 < l) = false) (g2 : decide (1152921504606846976 < t) = true) : Calls Tryz.prog 13 #[.agg #[.int .i64 t, .int .i64 l]] w fun e w' => e = .returned (.bool false) ∧ Below w.heap.size w w' := by
  go_enter Tryz.func13, Tryz.ntmps13
  go_wp2_with fail
  go_ret
  exact ⟨rfl, below_alloc _ _⟩

set_option maxRecDepth 100000 in
set_option maxHeartbeats 20000000 in
theorem rvalid_bad3 (t l : Int) (w : World) (g0 : decide (l < 1) = false) (g1 : decide (1152921504606846976 < l) = false) (g2 : decide (1152921504606846976 < t) = false) (g3 : decide (t < -1152921504606846976) = true) : Calls Tryz.prog 13 #[.agg #[.int .i64 t, .int .i64 l]] w fun e w' => e = .returned (.bool false) ∧ Below w.heap.size w w' := by
  go_enter Tryz.func13, Tryz.ntmps13
  go_wp2_with fail
  go_ret
  exact ⟨rfl, below_alloc _ _⟩

set_option maxRecDepth 100000 in
set_option maxHeartbeats 20000000 in
theorem rvalid_good (t l : Int) (w : World) (hg : (1 ≤ l ∧ l ≤ 1152921504606846976) ∧ -1152921504606846976 ≤ t ∧ t ≤ 1152921504606846976) (g0 : decide (l < 1) = false) (g1 : decide (1152921504606846976 < l) = false) (g2 : decide (1152921504606846976 < t) = false) (g3 : decide (t < -1152921504606846976) = false) : Calls Tryz.prog 13 #[.agg #[.int .i64 t, .int .i64 l]] w fun e w' => e = .returned (.bool (sgnI ((Nat.gcd t.natAbs l.natAbs : Nat) - 1) == 0)) ∧ Below w.heap.size w w' := by
  have b1 : (1 : Int).natAbs < Bs ^ 3 := by decide
  have e3 : Bs ^ 3 = 1237940039285380274899124224 := by decide
  have bt : t.natAbs < Bs ^ 3 := by omega
  have bl : l.natAbs < Bs ^ 3 := by omega
  have bg : ((Nat.gcd t.natAbs l.natAbs : Nat) : Int).natAbs < Bs ^ 3 := by
    have : Nat.gcd t.natAbs l.natAbs ≤ l.natAbs := Nat.le_of_dvd (by omega) (Nat.gcd_dvd_right _ _)
    rw [Int.natAbs_natCast]
    omega
  have HO1 : Hid (∀ wx, Calls Tryz.prog 36 #[.int .i64 t] wx (RetV (.int t) wx)) := fun wx => iv_of t wx (by omega) (by omega)
  have HO2 : Hid (∀ wx, Calls Tryz.prog 36 #[.int .i64 l] wx (RetV (.int l) wx)) := fun wx => iv_of l wx (by omega) (by omega)
  have HO3 : Hid (∀ wx, Calls Tryz.prog 36 #[.int .i64 1] wx (RetV (.int 1) wx)) := fun wx => iv_of 1 wx (by decide) (by decide)
  have HG : Hid (∀ wx u u', IV wx u t → IV wx u' l → Calls Tryz.prog 35 #[u, u'] wx (RetV (.int (Nat.gcd t.natAbs l.natAbs : Nat)) wx)) := fun wx u u' k1 k2 => iv_gcd 3 k1 k2 (by decide) bt bl
  have HC : Hid (∀ wx u u', IV wx u (Nat.gcd t.natAbs l.natAbs : Nat) → IV wx u' 1 → Calls Tryz.prog 37 #[u, u'] wx (RetV (.val (.int .i64 (sgnI ((Nat.gcd t.natAbs l.natAbs : Nat) - 1)))) wx)) := fun wx u u' k1 k2 => iv_compare 3 k1 k2 (by decide) bg b1
  clear b1 e3 bt bl bg hg
  generalize sgnI ((Nat.gcd t.natAbs l.natAbs : Nat) - 1) = q at HC ⊢
  generalize ((Nat.gcd t.natAbs l.natAbs : Nat) : Int) = G at HG HC
  go_enter Tryz.func13, Tryz.ntmps13
  go_upto_region 3 with fail
  generalize hX : w.alloc _ = X
  have HX : Hid (FB2 w (.int .i64 t) (.int .i64 l) X) := by
    subst hX
    exact FB2.new w _ _
  clear hX g0 g1 g2 g3
  refine wp_region_flow 11 [21, 22, 23, 24, 25, 26, 27, 28, 29, 30, 2] (fun i => if i = 10 then 2 else 21 + i) (FB2 w (.int .i64 t) (.int .i64 l)) (Spl [.val (.pointer (some ⟨w.heap.size, 0, none⟩)), .val (.int .i64 t), .int t, .val (.pointer (some ⟨w.heap.size, 1, none⟩)), .val (.int .i64 l), .int l, .int G, .int 1, .val (.int .i64 q), .val (.bool (q == 0)), .val (.bool (q == 0))]) (by kernel_rfl) (by kernel_rfl) (by kernel_rfl) (by kernel_rfl) (fun i j hi hj h => by have h : (if i = 10 then 2 else 21 + i) = (if j = 10 then 2 else 21 + j) := h; split at h <;> split at h <;> omega) (by decide) FB2.keep Spl.keep ?_ ?_ ?_
  · exact HX.out.keep _ _ (Below.drew (Below.refl _ _))
  · intro i v wx o T' K ho hF hdep hin hout hK
    have hi : i < 11 := (Array.getElem?_eq_some_iff.1 ho).1
    have q21 := hin 21 (by decide)
    have q22 := hin 22 (by decide)
    have q23 := hin 23 (by decide)
    have q24 := hin 24 (by decide)
    have q25 := hin 25 (by decide)
    have q26 := hin 26 (by decide)
    have q27 := hin 27 (by decide)
    have q28 := hin 28 (by decide)
    have q29 := hin 29 (by decide)
    have q30 := hin 30 (by decide)
    have q2 := hin 2 (by decide)
    have sl1 : T'[1]? = some (.pointer (some ⟨w.heap.size, 0, none⟩)) := (hout 1 (by decide)).trans rfl
    clear hin hout
    have HF := Lib.hid hF
    have HD := Lib.hid hdep
    clear hF hdep
    rcases (by omega : i = 0 ∨ i = 1 ∨ i = 2 ∨ i = 3 ∨ i = 4 ∨ i = 5 ∨ i = 6 ∨ i = 7 ∨ i = 8 ∨ i = 9 ∨ i = 10) with rfl | rfl | rfl | rfl | rfl | rfl | rfl | rfl | rfl | rfl | rfl
    · obtain rfl := Option.some.inj ho
      clear q21 q22 q23 q24 q25 q26 q27 q28 q29 q30 q2 ho hi
      go_simp
      exact hK _ _ (Below.refl _ _) rfl
    · obtain rfl := Option.some.inj ho
      have e1 : v 21 = (.pointer (some ⟨w.heap.size, 0, none⟩)) := HD.out ⟨0, .data⟩ (by simp) rfl
      rw [e1] at q21
      obtain ⟨k0, k1, k2⟩ := HF.out.ba
      have hP := (rfl : Value.int .i64 t = .int .i64 t)
      clear q22 q23 q24 q25 q26 q27 q28 q29 q30 q2 sl1 ho hi
      go_simp
      exact hK _ _ (Below.refl _ _) hP
    · obtain rfl := Option.some.inj ho
      have e0 : v 22 = (.int .i64 t) := HD.out ⟨1, .data⟩ (by simp) rfl
      rw [e0] at q22
      clear q21 q23 q24 q25 q26 q27 q28 q29 q30 q2 sl1 ho hi
      go_simp
      (with_reducible refine (HO1.out _).mono ?_)
      rintro e w2 ⟨u, rfl, hu, hB⟩
      exact hK _ _ hB hu
    · obtain rfl := Option.some.inj ho
      clear q21 q22 q23 q24 q25 q26 q27 q28 q29 q30 q2 ho hi
      go_simp
      exact hK _ _ (Below.refl _ _) rfl
    · obtain rfl := Option.some.inj ho
      have e1 : v 24 = (.pointer (some ⟨w.heap.size, 1, none⟩)) := HD.out ⟨3, .data⟩ (by simp) rfl
      rw [e1] at q24
      obtain ⟨k0, k1, k2⟩ := HF.out.ba
      have hP := (rfl : Value.int .i64 l = .int .i64 l)
      clear q21 q22 q23 q25 q26 q27 q28 q29 q30 q2 sl1 ho hi
      go_simp
      exact hK _ _ (Below.refl _ _) hP
    · obtain rfl := Option.some.inj ho
      have e0 : v 25 = (.int .i64 l) := HD.out ⟨4, .data⟩ (by simp) rfl
      rw [e0] at q25
      clear q21 q22 q23 q24 q26 q27 q28 q29 q30 q2 sl1 ho hi
      go_simp
      (with_reducible refine (HO2.out _).mono ?_)
      rintro e w2 ⟨u, rfl, hu, hB⟩
      exact hK _ _ hB hu
    · obtain rfl := Option.some.inj ho
      have h0 : IV wx (v 23) t := HD.out ⟨2, .data⟩ (by simp) rfl
      have h1 : IV wx (v 26) l := HD.out ⟨5, .data⟩ (by simp) rfl
      clear q21 q22 q24 q25 q27 q28 q29 q30 q2 sl1 ho hi
      go_simp
      (with_reducible refine (HG.out _ _ _ h0 h1).mono ?_)
      rintro e w2 ⟨u, rfl, hu, hB⟩
      exact hK _ _ hB hu
    · obtain rfl := Option.some.inj ho
      clear q21 q22 q23 q24 q25 q26 q27 q28 q29 q30 q2 sl1 ho hi
      go_simp
      (with_reducible refine (HO3.out _).mono ?_)
      rintro e w2 ⟨u, rfl, hu, hB⟩
      exact hK _ _ hB hu
    · obtain rfl := Option.some.inj ho
      have h0 : IV wx (v 27) G := HD.out ⟨6, .data⟩ (by simp) rfl
      have h1 : IV wx (v 28) 1 := HD.out ⟨7, .data⟩ (by simp) rfl
      clear q21 q22 q23 q24 q25 q26 q29 q30 q2 sl1 ho hi
      go_simp
      (with_reducible refine (HC.out _ _ _ h0 h1).mono ?_)
      rintro e w2 ⟨u, rfl, hu, hB⟩
      exact hK _ _ hB hu
    · obtain rfl := Option.some.inj ho
      have e0 : v 29 = (.int .i64 q) := HD.out ⟨8, .data⟩ (by simp) rfl
      rw [e0] at q29
      clear q21 q22 q23 q24 q25 q26 q27 q28 q30 q2 sl1 ho hi
      go_simp
      exact hK _ _ (Below.refl _ _) rfl
    · obtain rfl := Option.some.inj ho
      have e0 : v 30 = (.bool (q == 0)) := HD.out ⟨9, .data⟩ (by simp) rfl
      rw [e0] at q30
      clear q21 q22 q23 q24 q25 q26 q27 q28 q29 q2 sl1 ho hi
      go_simp
      exact hK _ _ (Below.refl _ _) rfl
  · intro v wx hF hall
    have h2 : v 2 = .bool (q == 0) := hall 10 (by decide)
    have HB := Lib.hid hF.below
    clear hF hall
    simp only [over, List.setIfInBounds_toArray, List.set_cons_zero, List.set_cons_succ]
    rw [h2]
    generalize v 21 = v21
    generalize v 22 = v22
    generalize v 23 = v23
    generalize v 24 = v24
    generalize v 25 = v25
    generalize v 26 = v26
    generalize v 27 = v27
    generalize v 28 = v28
    generalize v 29 = v29
    generalize v 30 = v30
    go_wp2_with fail
    go_ret
    exact ⟨rfl, HB.out⟩

theorem rvalid_any (t l : Int) (w : World) : Calls Tryz.prog 13 #[.agg #[.int .i64 t, .int .i64 l]] w fun e w' => e = .returned (.bool (vld t l)) ∧ Below w.heap.size w w' := by
  have HV : vld t l = (!(decide (l < 1)) && !(decide (1152921504606846976 < l)) && !(decide (t < -1152921504606846976)) && !(decide (1152921504606846976 < t)) && (Nat.gcd t.natAbs l.toNat == 1)) := rfl
  cases g0 : decide (l < 1) with
  | true =>
    rw [HV, g0]
    exact rvalid_bad0 t l w g0
  | false =>
    cases g1 : decide (1152921504606846976 < l) with
    | true =>
      rw [HV, g0, g1]
      exact rvalid_bad1 t l w g0 g1
    | false =>
      cases g2 : decide (1152921504606846976 < t) with
      | true =>
        have e : vld t l = false := by rw [HV, g0, g1, g2]; cases decide (t < -1152921504606846976) <;> rfl
        rw [e]
        exact rvalid_bad2 t l w g0 g1 g2
      | false =>
        cases g3 : decide (t < -1152921504606846976) with
        | true =>
          rw [HV, g0, g1, g2, g3]
          exact rvalid_bad3 t l w g0 g1 g2 g3
        | false =>
          have h0 := of_decide_eq_false g0
          have h1 := of_decide_eq_false g1
          have h2 := of_decide_eq_false g2
          have h3 := of_decide_eq_false g3
          have H := rvalid_good t l w (by omega) g0 g1 g2 g3
          have el : l.toNat = l.natAbs := by omega
          have e : vld t l = (sgnI ((Nat.gcd t.natAbs l.natAbs : Nat) - 1) == 0) := by
            rw [HV, g0, g1, g2, g3, el]
            have hp : 0 < Nat.gcd t.natAbs l.natAbs := Nat.gcd_pos_of_pos_right _ (by omega)
            generalize Nat.gcd t.natAbs l.natAbs = G at hp
            unfold sgnI
            by_cases hG : G = 1
            · subst hG; rfl
            · rw [if_neg (show ¬ ((G : Int) - 1 < 0) by omega), if_neg (show ¬ ((G : Int) - 1 = 0) by omega)]
              have : (G == 1) = false := beq_eq_false_iff_ne.2 hG
              rw [this]
              rfl
          rw [e]
          exact H

end Go.Proofs.YtfhmhkbjcccejaaGreatDoor

namespace Go.Proofs.YtfhmhkbjcccejaaGreatDoor
open Go.RowKit

/-- The parts and the error of the quotient of two ints. -/
def fracT (t l : Int) : Int × Int × Int := if l = 0 then (0, 0, 6) else outT (qt t l)

theorem rv_numRt (K : Nat) {u : Value} {x : Rat} {w : World} (h : RFV w u x) (hK : K ≤ 250000) (hx : x.num.natAbs < Bs ^ K ∧ x.den < Bs ^ K) : Calls Tryz.prog 26 #[u] w (Rt (outT x).1 (outT x).2.1 (outT x).2.2 w) := by
  have := rv_num K h hK hx
  rw [outN_val] at this
  exact this

end Go.Proofs.YtfhmhkbjcccejaaGreatDoor

namespace Go.Proofs.YtfhmhkbjcccejaaGreatDoor
open Go Go.RowKit

section
variable {P : Program} {ops : Array Oper} {Q : Exit → Act → World → Prop}

/-- What operation n waits for, also through others. -/
def waited (ops : Array Oper) (n : Nat) : List Nat :=
  (List.range n).reverse.foldl (fun acc j => if acc.contains j then acc ++ onOf ops j else acc) (onOf ops n)
  where
  onOf (ops : Array Oper) (j : Nat) : List Nat := ((ops[j]?).map fun o => (o.after.toList.filter fun e => Region.binds .any e).map (·.on)).getD []

theorem mem_onOf {j x : Nat} (h : x ∈ waited.onOf ops j) : ∃ o, ops[j]? = some o ∧ ∃ e ∈ o.after, Region.binds .any e = true ∧ e.on = x := by
  unfold waited.onOf at h
  cases ho : ops[j]? with
  | none => rw [ho] at h; simp at h
  | some o =>
    rw [ho] at h
    simp only [Option.map_some, Option.getD_some, List.mem_map, List.mem_filter] at h
    obtain ⟨e, ⟨he, hb⟩, hx⟩ := h
    exact ⟨o, rfl, e, Array.mem_toList_iff.1 he, hb, hx⟩

theorem waited_done {b : Nat → Bool} {n : Nat} {o : Oper} (ho : ops[n]? = some o) (hdep : ∀ e ∈ o.after, Region.binds .any e = true → b e.on = true) (hc : ∀ j o, ops[j]? = some o → b j = true → ∀ e ∈ o.after, Region.binds .any e = true → b e.on = true) :
    ∀ x ∈ waited ops n, b x = true := by
  have key : ∀ (L : List Nat) (acc : List Nat), (∀ x ∈ acc, b x = true) → ∀ x ∈ L.foldl (fun acc j => if acc.contains j then acc ++ waited.onOf ops j else acc) acc, b x = true := by
    intro L
    induction L with
    | nil => intro acc h; exact h
    | cons j L ih =>
      intro acc h
      rw [List.foldl_cons]
      refine ih _ ?_
      split
      · rename_i hj
        intro x hx
        rcases List.mem_append.1 hx with hx | hx
        · exact h x hx
        · obtain ⟨o', ho', e, he, hb, rfl⟩ := mem_onOf hx
          exact hc j o' ho' (h j (by simpa using hj)) e he hb
      · exact h
  refine key _ _ fun x hx => ?_
  obtain ⟨o', ho', e, he, hb, rfl⟩ := mem_onOf hx
  rw [ho] at ho'
  injection ho' with ho'
  subst ho'
  exact hdep e he hb

/-- Every operation but the last two makes a value; the last two store, one after the other, after all others. -/
theorem wp_region_flow_store2 {id : Nat} {T : Array Value} {df : List Deferred} {w : World} (n : Nat) (S : List Nat) (d : Nat → Nat) (Fix End : World → Prop) (Mid : (Nat → Value) → World → Prop) (G : Nat → Value → World → Prop)
    (hm : P.follows .mixedOrders = true) (hf : forward .any ops = true) (hS : S.all (fun j => decide (j < T.size)) = true) (hn : ops.size = n + 2)
    (hw : ((List.range n).all fun i => (waited ops n).contains i) = true) (hw2 : (waited.onOf ops (n + 1)).contains n = true)
    (hd : ∀ i j, i < n → j < n → d i = d j → i = j) (hdS : ∀ i, i < n → d i ∈ S)
    (hkeep : ∀ wx wy, Fix wx → Below wx.heap.size wx wy → Fix wy) (hG : ∀ i u wx wy, Below wx.heap.size wx wy → G i u wx → G i u wy)
    (h0 : Fix w.drew)
    (hstep : ∀ (i : Nat) (v : Nat → Value) (wx : World) (o : Oper) (T' : Array Value) (K : Act → World → Prop), i < n → ops[i]? = some o → Fix wx → (∀ e ∈ o.after, Region.binds .any e = true → G e.on (v (d e.on)) wx) →
      (∀ j, j ∈ S → T'[j]? = some (v j)) → (∀ j, j ∉ S → T'[j]? = T[j]?) →
      (∀ x w', Below wx.heap.size wx w' → G i x w' → K ⟨T'.setIfInBounds (d i) x, df⟩ w') →
      if Region.wanted o (yielded ops T') = true then Oper.wp P o ⟨T', df⟩ wx K Q else K (Act.put ⟨T', df⟩ o.dst undef) wx)
    (hstore1 : ∀ (v : Nat → Value) (wx : World) (o : Oper) (T' : Array Value) (K : Act → World → Prop), ops[n]? = some o → Fix wx → (∀ i, i < n → G i (v (d i)) wx) →
      (∀ j, j ∈ S → T'[j]? = some (v j)) → (∀ j, j ∉ S → T'[j]? = T[j]?) → (∀ w', Mid v w' → K ⟨T', df⟩ w') →
      if Region.wanted o (yielded ops T') = true then Oper.wp P o ⟨T', df⟩ wx K Q else K (Act.put ⟨T', df⟩ o.dst undef) wx)
    (hstore2 : ∀ (v : Nat → Value) (wx : World) (o : Oper) (T' : Array Value) (K : Act → World → Prop), ops[n + 1]? = some o → Mid v wx →
      (∀ j, j ∈ S → T'[j]? = some (v j)) → (∀ j, j ∉ S → T'[j]? = T[j]?) → (∀ w', End w' → K ⟨T', df⟩ w') →
      if Region.wanted o (yielded ops T') = true then Oper.wp P o ⟨T', df⟩ wx K Q else K (Act.put ⟨T', df⟩ o.dst undef) wx)
    (hend : ∀ (v : Nat → Value) (wx : World), End wx → Q .normal ⟨over T S v, df⟩ wx) :
    (Code.region id ops true).wp P Q ⟨T, df⟩ w := by
  refine wp_region_inv3 S (fun b v wx => (∀ j o, ops[j]? = some o → b j = true → ∀ e ∈ o.after, Region.binds .any e = true → b e.on = true) ∧ (b n = false → b (n + 1) = false ∧ Fix wx ∧ ∀ i, i < n → b i = true → G i (v (d i)) wx) ∧
    (b n = true → (∀ i, i < n → b i = true) ∧ (b (n + 1) = false → Mid v wx) ∧ (b (n + 1) = true → End wx))) hm hf hS ⟨fun _ _ _ h => Bool.noConfusion h, fun _ => ⟨rfl, h0, fun _ _ h => Bool.noConfusion h⟩, fun h => Bool.noConfusion h⟩ ?_ ?_
  · rintro i b v wx o T' K ho hdep hb ⟨hc, h1, h2⟩ hin hout hK hK'
    have hi : i < n + 2 := by rw [← hn]; exact (Array.getElem?_eq_some_iff.1 ho).1
    have hon : ∀ j o, ops[j]? = some o → ∀ e ∈ o.after, Region.binds .any e = true → e.on < j := fun j o ho e he hbd => by
      have hj : j < ops.size := (Array.getElem?_eq_some_iff.1 ho).1
      have h := List.all_eq_true.1 hf j (List.mem_range.2 hj)
      simp only [ho, Option.map_some, Option.getD_some] at h
      have h2 := (Array.all_eq_true_iff_forall_mem.1 h) e he
      simpa [hbd] using h2
    have hc' : ∀ j o, ops[j]? = some o → updB b i j = true → ∀ e ∈ o.after, Region.binds .any e = true → updB b i e.on = true := fun j o' ho' hj e he hbd => by
      have keep : ∀ k, b k = true → updB b i k = true := fun k hk => by
        unfold updB
        split
        · rfl
        · exact hk
      by_cases e1 : j = i
      · subst e1
        rw [ho] at ho'
        injection ho' with ho'
        subst ho'
        exact keep _ (hdep e he hbd)
      · unfold updB at hj
        rw [if_neg e1] at hj
        exact keep _ (hc j o' ho' hj e he hbd)
    have hbi : ∀ j, j ≠ i → updB b i j = b j := fun j hj => by unfold updB; rw [if_neg hj]
    have hbs : updB b i i = true := by unfold updB; rw [if_pos rfl]
    by_cases hl : i < n
    · have hbn : b n = false := by
        cases hbn : b n with
        | false => rfl
        | true => exact absurd ((h2 hbn).1 i hl) (by rw [hb]; decide)
      obtain ⟨hb1, hF, hall⟩ := h1 hbn
      refine hstep i v wx o T' K hl ho hF (fun e he hbd => hall _ (Nat.lt_trans (hon i o ho e he hbd) hl) (hdep e he hbd)) hin hout (fun x w' hB hx => hK _ _ _ (hdS i hl) ⟨hc', fun _ => ⟨by rw [hbi _ (by omega)]; exact hb1, hkeep _ _ hF hB, fun j hj hbj => ?_⟩, fun h => ?_⟩)
      · by_cases e : j = i
        · subst e
          have e2 : updV v (d j) x (d j) = x := by unfold updV; rw [if_pos rfl]
          rw [e2]
          exact hx
        · rw [updV_other hd hl hj e]
          rw [hbi _ e] at hbj
          exact hG _ _ _ _ hB (hall j hj hbj)
      · rw [hbi _ (by omega), hbn] at h
        exact Bool.noConfusion h
    · by_cases hl2 : i = n
      · subst hl2
        obtain ⟨hb1, hF, hall⟩ := h1 hb
        have hdone : ∀ j, j < i → b j = true := fun j hj => waited_done ho hdep hc j (by simpa using List.all_eq_true.1 hw j (List.mem_range.2 hj))
        refine hstore1 v wx o T' K ho hF (fun j hj => hall j hj (hdone j hj)) hin hout (fun w' hM => hK' _ ⟨hc', fun h => ?_, fun _ => ⟨fun j hj => by rw [hbi _ (by omega)]; exact hdone j hj, fun _ => hM, fun h => ?_⟩⟩)
        · rw [hbs] at h
          exact Bool.noConfusion h
        · rw [hbi _ (by omega), hb1] at h
          exact Bool.noConfusion h
      · have hi2 : i = n + 1 := by omega
        subst hi2
        have hbn : b n = true := by
          obtain ⟨o', ho', e, he, hbd, hx⟩ := mem_onOf (show n ∈ waited.onOf ops (n + 1) by simpa using hw2)
          rw [ho] at ho'
          injection ho' with ho'
          subst ho'
          rw [← hx]
          exact hdep e he hbd
        obtain ⟨hall, hM, -⟩ := h2 hbn
        refine hstore2 v wx o T' K ho (hM hb) hin hout (fun w' hE => hK' _ ⟨hc', fun h => ?_, fun _ => ⟨fun j hj => by rw [hbi _ (by omega)]; exact hall j hj, fun h => ?_, fun _ => hE⟩⟩)
        · rw [hbi _ (by omega), hbn] at h
          exact Bool.noConfusion h
        · rw [hbs] at h
          exact Bool.noConfusion h
  · rintro b v wx hb ⟨-, -, h2⟩
    exact hend v wx ((h2 (hb n (by omega))).2.2 (hb (n + 1) (by omega)))

/-- Every operation but the last two makes a value; the last but one stores, the last one lays a constant into slot s2. -/
theorem wp_region_flow_put {id : Nat} {T : Array Value} {df : List Deferred} {w : World} (n : Nat) (s2 : Nat) (c2 : Value) (S : List Nat) (d : Nat → Nat) (Fix End : World → Prop) (Mid : (Nat → Value) → World → Prop) (G : Nat → Value → World → Prop)
    (hm : P.follows .mixedOrders = true) (hf : forward .any ops = true) (hS : S.all (fun j => decide (j < T.size)) = true) (hn : ops.size = n + 2)
    (hw : ((List.range n).all fun i => (waited ops n).contains i) = true) (hw2 : (waited.onOf ops (n + 1)).contains n = true)
    (hs2 : s2 ∈ S) (hd : ∀ i j, i < n → j < n → d i = d j → i = j) (hdS : ∀ i, i < n → d i ∈ S)
    (hkeep : ∀ wx wy, Fix wx → Below wx.heap.size wx wy → Fix wy) (hG : ∀ i u wx wy, Below wx.heap.size wx wy → G i u wx → G i u wy)
    (h0 : Fix w.drew)
    (hstep : ∀ (i : Nat) (v : Nat → Value) (wx : World) (o : Oper) (T' : Array Value) (K : Act → World → Prop), i < n → ops[i]? = some o → Fix wx → (∀ e ∈ o.after, Region.binds .any e = true → G e.on (v (d e.on)) wx) →
      (∀ j, j ∈ S → T'[j]? = some (v j)) → (∀ j, j ∉ S → T'[j]? = T[j]?) →
      (∀ x w', Below wx.heap.size wx w' → G i x w' → K ⟨T'.setIfInBounds (d i) x, df⟩ w') →
      if Region.wanted o (yielded ops T') = true then Oper.wp P o ⟨T', df⟩ wx K Q else K (Act.put ⟨T', df⟩ o.dst undef) wx)
    (hstore1 : ∀ (v : Nat → Value) (wx : World) (o : Oper) (T' : Array Value) (K : Act → World → Prop), ops[n]? = some o → Fix wx → (∀ i, i < n → G i (v (d i)) wx) →
      (∀ j, j ∈ S → T'[j]? = some (v j)) → (∀ j, j ∉ S → T'[j]? = T[j]?) → (∀ w', Mid v w' → K ⟨T', df⟩ w') →
      if Region.wanted o (yielded ops T') = true then Oper.wp P o ⟨T', df⟩ wx K Q else K (Act.put ⟨T', df⟩ o.dst undef) wx)
    (hstore2 : ∀ (v : Nat → Value) (wx : World) (o : Oper) (T' : Array Value) (K : Act → World → Prop), ops[n + 1]? = some o → Mid v wx →
      (∀ j, j ∈ S → T'[j]? = some (v j)) → (∀ j, j ∉ S → T'[j]? = T[j]?) → (∀ w', End w' → K ⟨T'.setIfInBounds s2 c2, df⟩ w') →
      if Region.wanted o (yielded ops T') = true then Oper.wp P o ⟨T', df⟩ wx K Q else K (Act.put ⟨T', df⟩ o.dst undef) wx)
    (hend : ∀ (v : Nat → Value) (wx : World), v s2 = c2 → End wx → Q .normal ⟨over T S v, df⟩ wx) :
    (Code.region id ops true).wp P Q ⟨T, df⟩ w := by
  refine wp_region_inv3 S (fun b v wx => (∀ j o, ops[j]? = some o → b j = true → ∀ e ∈ o.after, Region.binds .any e = true → b e.on = true) ∧ (b n = false → b (n + 1) = false ∧ Fix wx ∧ ∀ i, i < n → b i = true → G i (v (d i)) wx) ∧
    (b n = true → (∀ i, i < n → b i = true) ∧ (b (n + 1) = false → Mid v wx) ∧ (b (n + 1) = true → v s2 = c2 ∧ End wx))) hm hf hS ⟨fun _ _ _ h => Bool.noConfusion h, fun _ => ⟨rfl, h0, fun _ _ h => Bool.noConfusion h⟩, fun h => Bool.noConfusion h⟩ ?_ ?_
  · rintro i b v wx o T' K ho hdep hb ⟨hc, h1, h2⟩ hin hout hK hK'
    have hi : i < n + 2 := by rw [← hn]; exact (Array.getElem?_eq_some_iff.1 ho).1
    have hon : ∀ j o, ops[j]? = some o → ∀ e ∈ o.after, Region.binds .any e = true → e.on < j := fun j o ho e he hbd => by
      have hj : j < ops.size := (Array.getElem?_eq_some_iff.1 ho).1
      have h := List.all_eq_true.1 hf j (List.mem_range.2 hj)
      simp only [ho, Option.map_some, Option.getD_some] at h
      have h2 := (Array.all_eq_true_iff_forall_mem.1 h) e he
      simpa [hbd] using h2
    have hc' : ∀ j o, ops[j]? = some o → updB b i j = true → ∀ e ∈ o.after, Region.binds .any e = true → updB b i e.on = true := fun j o' ho' hj e he hbd => by
      have keep : ∀ k, b k = true → updB b i k = true := fun k hk => by
        unfold updB
        split
        · rfl
        · exact hk
      by_cases e1 : j = i
      · subst e1
        rw [ho] at ho'
        injection ho' with ho'
        subst ho'
        exact keep _ (hdep e he hbd)
      · unfold updB at hj
        rw [if_neg e1] at hj
        exact keep _ (hc j o' ho' hj e he hbd)
    have hbi : ∀ j, j ≠ i → updB b i j = b j := fun j hj => by unfold updB; rw [if_neg hj]
    have hbs : updB b i i = true := by unfold updB; rw [if_pos rfl]
    by_cases hl : i < n
    · have hbn : b n = false := by
        cases hbn : b n with
        | false => rfl
        | true => exact absurd ((h2 hbn).1 i hl) (by rw [hb]; decide)
      obtain ⟨hb1, hF, hall⟩ := h1 hbn
      refine hstep i v wx o T' K hl ho hF (fun e he hbd => hall _ (Nat.lt_trans (hon i o ho e he hbd) hl) (hdep e he hbd)) hin hout (fun x w' hB hx => hK _ _ _ (hdS i hl) ⟨hc', fun _ => ⟨by rw [hbi _ (by omega)]; exact hb1, hkeep _ _ hF hB, fun j hj hbj => ?_⟩, fun h => ?_⟩)
      · by_cases e : j = i
        · subst e
          have e2 : updV v (d j) x (d j) = x := by unfold updV; rw [if_pos rfl]
          rw [e2]
          exact hx
        · rw [updV_other hd hl hj e]
          rw [hbi _ e] at hbj
          exact hG _ _ _ _ hB (hall j hj hbj)
      · rw [hbi _ (by omega), hbn] at h
        exact Bool.noConfusion h
    · by_cases hl2 : i = n
      · subst hl2
        obtain ⟨hb1, hF, hall⟩ := h1 hb
        have hdone : ∀ j, j < i → b j = true := fun j hj => waited_done ho hdep hc j (by simpa using List.all_eq_true.1 hw j (List.mem_range.2 hj))
        refine hstore1 v wx o T' K ho hF (fun j hj => hall j hj (hdone j hj)) hin hout (fun w' hM => hK' _ ⟨hc', fun h => ?_, fun _ => ⟨fun j hj => by rw [hbi _ (by omega)]; exact hdone j hj, fun _ => hM, fun h => ?_⟩⟩)
        · rw [hbs] at h
          exact Bool.noConfusion h
        · rw [hbi _ (by omega), hb1] at h
          exact Bool.noConfusion h
      · have hi2 : i = n + 1 := by omega
        subst hi2
        have hbn : b n = true := by
          obtain ⟨o', ho', e, he, hbd, hx⟩ := mem_onOf (show n ∈ waited.onOf ops (n + 1) by simpa using hw2)
          rw [ho] at ho'
          injection ho' with ho'
          subst ho'
          rw [← hx]
          exact hdep e he hbd
        obtain ⟨hall, hM, -⟩ := h2 hbn
        refine hstore2 v wx o T' K ho (hM hb) hin hout (fun w' hE => hK _ _ _ hs2 ⟨hc', fun h => ?_, fun _ => ⟨fun j hj => by rw [hbi _ (by omega)]; exact hall j hj, fun h => ?_, fun _ => ⟨by unfold updV; rw [if_pos rfl], hE⟩⟩⟩)
        · rw [hbi _ (by omega), hbn] at h
          exact Bool.noConfusion h
        · rw [hbs] at h
          exact Bool.noConfusion h
  · rintro b v wx hb ⟨-, -, h2⟩
    have := (h2 (hb n (by omega))).2.2 (hb (n + 1) (by omega))
    exact hend v wx this.1 this.2
end

end Go.Proofs.YtfhmhkbjcccejaaGreatDoor
