/- Numbers that are valid, of the reference. A region whose order is drawn, whose last operation stores: the end speaks of the values. The reference: whole numbers as fractions, and the integer part of a fraction that is not negative. A box that holds a fraction of the reference. -/
import Derived.Test.YtfhmhkbjcccejaaMRd
import Derived.Test.YtfhmhkbjcccejaaMNa

namespace Go.Proofs.Ytfhmhkbjcccejaa
open Go.RowKit

/-- The box of one number. -/
structure FB2 (w : World) (a b : Value) (wx : World) : Prop where
  below : Below w.heap.size w wx
  ba : B2n w.heap.size a b wx
theorem FB2.keep {w : World} {a b : Value} (wx wy : World) (h : FB2 w a b wx) (hb : Below wx.heap.size wx wy) : FB2 w a b wy :=
  ⟨h.below.trans (hb.mono h.below.size), h.ba.keep hb⟩
theorem FB2.new (w : World) (a b : Value) : FB2 w a b (w.alloc (.cells #[a, b] 23)) :=
  ⟨(Below.refl _ _).alloc (Nat.le_refl _) _, by simp [B2n, go_sem]⟩

set_option maxRecDepth 100000 in
set_option maxHeartbeats 20000000 in
theorem rvalid_bad0 (t l : Int) (w : World) (g0 : decide (l < 1) = true) : Calls Try.prog 17 #[.agg #[.int .i64 t, .int .i64 l]] w fun e w' => e = .returned (.bool false) ∧ Below w.heap.size w w' := by
  go_enter Try.func17, Try.ntmps17
  go_wp2_with fail
  go_ret
  exact ⟨rfl, below_alloc _ _⟩

set_option maxRecDepth 100000 in
set_option maxHeartbeats 20000000 in
theorem rvalid_bad1 (t l : Int) (w : World) (g0 : decide (l < 1) = false) (g1 : decide (1152921504606846976 < l) = true) : Calls Try.prog 17 #[.agg #[.int .i64 t, .int .i64 l]] w fun e w' => e = .returned (.bool false) ∧ Below w.heap.size w w' := by
  go_enter Try.func17, Try.ntmps17
  go_wp2_with fail
  go_ret
  exact ⟨rfl, below_alloc _ _⟩

set_option maxRecDepth 100000 in
set_option maxHeartbeats 20000000 in
theorem rvalid_bad2 (t l : Int) (w : World) (g0 : decide (l < 1) = false) (g1 : decide (1152921504606846976 < l) = false) (g2 : decide (1152921504606846976 < t) = true) : Calls Try.prog 17 #[.agg #[.int .i64 t, .int .i64 l]] w fun e w' => e = .returned (.bool false) ∧ Below w.heap.size w w' := by
  go_enter Try.func17, Try.ntmps17
  go_wp2_with fail
  go_ret
  exact ⟨rfl, below_alloc _ _⟩

set_option maxRecDepth 100000 in
set_option maxHeartbeats 20000000 in
theorem rvalid_bad3 (t l : Int) (w : World) (g0 : decide (l < 1) = false) (g1 : decide (1152921504606846976 < l) = false) (g2 : decide (1152921504606846976 < t) = false) (g3 : decide (t < -1152921504606846976) = true) : Calls Try.prog 17 #[.agg #[.int .i64 t, .int .i64 l]] w fun e w' => e = .returned (.bool false) ∧ Below w.heap.size w w' := by
  go_enter Try.func17, Try.ntmps17
  go_wp2_with fail
  go_ret
  exact ⟨rfl, below_alloc _ _⟩

set_option maxRecDepth 100000 in
set_option maxHeartbeats 20000000 in
theorem rvalid_good (t l : Int) (w : World) (hg : (1 ≤ l ∧ l ≤ 1152921504606846976) ∧ -1152921504606846976 ≤ t ∧ t ≤ 1152921504606846976) (g0 : decide (l < 1) = false) (g1 : decide (1152921504606846976 < l) = false) (g2 : decide (1152921504606846976 < t) = false) (g3 : decide (t < -1152921504606846976) = false) : Calls Try.prog 17 #[.agg #[.int .i64 t, .int .i64 l]] w fun e w' => e = .returned (.bool (sgnI ((Nat.gcd t.natAbs l.natAbs : Nat) - 1) == 0)) ∧ Below w.heap.size w w' := by
  have b1 : (1 : Int).natAbs < Bs ^ 3 := by decide
  have e3 : Bs ^ 3 = 1237940039285380274899124224 := by decide
  have bt : t.natAbs < Bs ^ 3 := by omega
  have bl : l.natAbs < Bs ^ 3 := by omega
  have bg : ((Nat.gcd t.natAbs l.natAbs : Nat) : Int).natAbs < Bs ^ 3 := by
    have : Nat.gcd t.natAbs l.natAbs ≤ l.natAbs := Nat.le_of_dvd (by omega) (Nat.gcd_dvd_right _ _)
    rw [Int.natAbs_natCast]
    omega
  have HO1 : Hid (∀ wx, Calls Try.prog 29 #[.int .i64 t] wx (RetV (.int t) wx)) := fun wx => iv_of t wx (by omega) (by omega)
  have HO2 : Hid (∀ wx, Calls Try.prog 29 #[.int .i64 l] wx (RetV (.int l) wx)) := fun wx => iv_of l wx (by omega) (by omega)
  have HO3 : Hid (∀ wx, Calls Try.prog 29 #[.int .i64 1] wx (RetV (.int 1) wx)) := fun wx => iv_of 1 wx (by decide) (by decide)
  have HG : Hid (∀ wx u u', IV wx u t → IV wx u' l → Calls Try.prog 46 #[u, u'] wx (RetV (.int (Nat.gcd t.natAbs l.natAbs : Nat)) wx)) := fun wx u u' k1 k2 => iv_gcd 3 k1 k2 (by decide) bt bl
  have HC : Hid (∀ wx u u', IV wx u (Nat.gcd t.natAbs l.natAbs : Nat) → IV wx u' 1 → Calls Try.prog 47 #[u, u'] wx (RetV (.val (.int .i64 (sgnI ((Nat.gcd t.natAbs l.natAbs : Nat) - 1)))) wx)) := fun wx u u' k1 k2 => iv_compare 3 k1 k2 (by decide) bg b1
  clear b1 e3 bt bl bg hg
  generalize sgnI ((Nat.gcd t.natAbs l.natAbs : Nat) - 1) = q at HC ⊢
  generalize ((Nat.gcd t.natAbs l.natAbs : Nat) : Int) = G at HG HC
  go_enter Try.func17, Try.ntmps17
  go_upto_region 3 with fail
  generalize hX : w.alloc _ = X
  have HX : Hid (FB2 w (.int .i64 t) (.int .i64 l) X) := by
    subst hX
    exact FB2.new w _ _
  clear hX g0 g1 g2 g3
  refine wp_region_flow 11 [21, 22, 23, 24, 25, 26, 27, 28, 29, 30, 2] (fun i => if i = 10 then 2 else 21 + i) (FB2 w (.int .i64 t) (.int .i64 l)) (Spl [.val (.pointer (some ⟨w.heap.size, 0, none⟩)), .val (.int .i64 t), .int t, .val (.pointer (some ⟨w.heap.size, 1, none⟩)), .val (.int .i64 l), .int l, .int G, .int 1, .val (.int .i64 q), .val (.bool (q == 0)), .val (.bool (q == 0))]) (by kernel_rfl) (by kernel_rfl) (by kernel_rfl) (by kernel_rfl) (fun i j hi hj h => by have h : (if i = 10 then 2 else 21 + i) = (if j = 10 then 2 else 21 + j) := h; split at h <;> split at h <;> omega) (by decide) FB2.keep Spl.keep ?_ ?_ ?_
  · exact HX.out.keep _ _ (Below.drew (Below.refl _ _))
  · intro i v wx o T' K ho hF hdep hin hout hK
    have hi : i < 11 := (Array.getElem?_eq_some_iff.1 ho).1
    have q21 := hin 21 (by decide)
    have q22 := hin 22 (by decide)
    have q23 := hin 23 (by decide)
    have q24 := hin 24 (by decide)
    have q25 := hin 25 (by decide)
    have q26 := hin 26 (by decide)
    have q27 := hin 27 (by decide)
    have q28 := hin 28 (by decide)
    have q29 := hin 29 (by decide)
    have q30 := hin 30 (by decide)
    have q2 := hin 2 (by decide)
    have sl1 : T'[1]? = some (.pointer (some ⟨w.heap.size, 0, none⟩)) := (hout 1 (by decide)).trans rfl
    clear hin hout
    have HF := Lib.hid hF
    have HD := Lib.hid hdep
    clear hF hdep
    rcases (by omega : i = 0 ∨ i = 1 ∨ i = 2 ∨ i = 3 ∨ i = 4 ∨ i = 5 ∨ i = 6 ∨ i = 7 ∨ i = 8 ∨ i = 9 ∨ i = 10) with rfl | rfl | rfl | rfl | rfl | rfl | rfl | rfl | rfl | rfl | rfl
    · obtain rfl := Option.some.inj ho
      clear q21 q22 q23 q24 q25 q26 q27 q28 q29 q30 q2 ho hi
      go_simp
      exact hK _ _ (Below.refl _ _) rfl
    · obtain rfl := Option.some.inj ho
      have e1 : v 21 = (.pointer (some ⟨w.heap.size, 0, none⟩)) := HD.out ⟨0, .data⟩ (by simp) rfl
      rw [e1] at q21
      obtain ⟨k0, k1, k2⟩ := HF.out.ba
      have hP := (rfl : Value.int .i64 t = .int .i64 t)
      clear q22 q23 q24 q25 q26 q27 q28 q29 q30 q2 sl1 ho hi
      go_simp
      exact hK _ _ (Below.refl _ _) hP
    · obtain rfl := Option.some.inj ho
      have e0 : v 22 = (.int .i64 t) := HD.out ⟨1, .data⟩ (by simp) rfl
      rw [e0] at q22
      clear q21 q23 q24 q25 q26 q27 q28 q29 q30 q2 sl1 ho hi
      go_simp
      (with_reducible refine (HO1.out _).mono ?_)
      rintro e w2 ⟨u, rfl, hu, hB⟩
      exact hK _ _ hB hu
    · obtain rfl := Option.some.inj ho
      clear q21 q22 q23 q24 q25 q26 q27 q28 q29 q30 q2 ho hi
      go_simp
      exact hK _ _ (Below.refl _ _) rfl
    · obtain rfl := Option.some.inj ho
      have e1 : v 24 = (.pointer (some ⟨w.heap.size, 1, none⟩)) := HD.out ⟨3, .data⟩ (by simp) rfl
      rw [e1] at q24
      obtain ⟨k0, k1, k2⟩ := HF.out.ba
      have hP := (rfl : Value.int .i64 l = .int .i64 l)
      clear q21 q22 q23 q25 q26 q27 q28 q29 q30 q2 sl1 ho hi
      go_simp
      exact hK _ _ (Below.refl _ _) hP
    · obtain rfl := Option.some.inj ho
      have e0 : v 25 = (.int .i64 l) := HD.out ⟨4, .data⟩ (by simp) rfl
      rw [e0] at q25
      clear q21 q22 q23 q24 q26 q27 q28 q29 q30 q2 sl1 ho hi
      go_simp
      (with_reducible refine (HO2.out _).mono ?_)
      rintro e w2 ⟨u, rfl, hu, hB⟩
      exact hK _ _ hB hu
    · obtain rfl := Option.some.inj ho
      have h0 : IV wx (v 23) t := HD.out ⟨2, .data⟩ (by simp) rfl
      have h1 : IV wx (v 26) l := HD.out ⟨5, .data⟩ (by simp) rfl
      clear q21 q22 q24 q25 q27 q28 q29 q30 q2 sl1 ho hi
      go_simp
      (with_reducible refine (HG.out _ _ _ h0 h1).mono ?_)
      rintro e w2 ⟨u, rfl, hu, hB⟩
      exact hK _ _ hB hu
    · obtain rfl := Option.some.inj ho
      clear q21 q22 q23 q24 q25 q26 q27 q28 q29 q30 q2 sl1 ho hi
      go_simp
      (with_reducible refine (HO3.out _).mono ?_)
      rintro e w2 ⟨u, rfl, hu, hB⟩
      exact hK _ _ hB hu
    · obtain rfl := Option.some.inj ho
      have h0 : IV wx (v 27) G := HD.out ⟨6, .data⟩ (by simp) rfl
      have h1 : IV wx (v 28) 1 := HD.out ⟨7, .data⟩ (by simp) rfl
      clear q21 q22 q23 q24 q25 q26 q29 q30 q2 sl1 ho hi
      go_simp
      (with_reducible refine (HC.out _ _ _ h0 h1).mono ?_)
      rintro e w2 ⟨u, rfl, hu, hB⟩
      exact hK _ _ hB hu
    · obtain rfl := Option.some.inj ho
      have e0 : v 29 = (.int .i64 q) := HD.out ⟨8, .data⟩ (by simp) rfl
      rw [e0] at q29
      clear q21 q22 q23 q24 q25 q26 q27 q28 q30 q2 sl1 ho hi
      go_simp
      exact hK _ _ (Below.refl _ _) rfl
    · obtain rfl := Option.some.inj ho
      have e0 : v 30 = (.bool (q == 0)) := HD.out ⟨9, .data⟩ (by simp) rfl
      rw [e0] at q30
      clear q21 q22 q23 q24 q25 q26 q27 q28 q29 q2 sl1 ho hi
      go_simp
      exact hK _ _ (Below.refl _ _) rfl
  · intro v wx hF hall
    have h2 : v 2 = .bool (q == 0) := hall 10 (by decide)
    have HB := Lib.hid hF.below
    clear hF hall
    simp only [over, List.setIfInBounds_toArray, List.set_cons_zero, List.set_cons_succ]
    rw [h2]
    generalize v 21 = v21
    generalize v 22 = v22
    generalize v 23 = v23
    generalize v 24 = v24
    generalize v 25 = v25
    generalize v 26 = v26
    generalize v 27 = v27
    generalize v 28 = v28
    generalize v 29 = v29
    generalize v 30 = v30
    go_wp2_with fail
    go_ret
    exact ⟨rfl, HB.out⟩

theorem rvalid_any (t l : Int) (w : World) : Calls Try.prog 17 #[.agg #[.int .i64 t, .int .i64 l]] w fun e w' => e = .returned (.bool (vld t l)) ∧ Below w.heap.size w w' := by
  have HV : vld t l = (!(decide (l < 1)) && !(decide (1152921504606846976 < l)) && !(decide (t < -1152921504606846976)) && !(decide (1152921504606846976 < t)) && (Nat.gcd t.natAbs l.toNat == 1)) := rfl
  cases g0 : decide (l < 1) with
  | true =>
    rw [HV, g0]
    exact rvalid_bad0 t l w g0
  | false =>
    cases g1 : decide (1152921504606846976 < l) with
    | true =>
      rw [HV, g0, g1]
      exact rvalid_bad1 t l w g0 g1
    | false =>
      cases g2 : decide (1152921504606846976 < t) with
      | true =>
        have e : vld t l = false := by rw [HV, g0, g1, g2]; cases decide (t < -1152921504606846976) <;> rfl
        rw [e]
        exact rvalid_bad2 t l w g0 g1 g2
      | false =>
        cases g3 : decide (t < -1152921504606846976) with
        | true =>
          rw [HV, g0, g1, g2, g3]
          exact rvalid_bad3 t l w g0 g1 g2 g3
        | false =>
          have h0 := of_decide_eq_false g0
          have h1 := of_decide_eq_false g1
          have h2 := of_decide_eq_false g2
          have h3 := of_decide_eq_false g3
          have H := rvalid_good t l w (by omega) g0 g1 g2 g3
          have el : l.toNat = l.natAbs := by omega
          have e : vld t l = (sgnI ((Nat.gcd t.natAbs l.natAbs : Nat) - 1) == 0) := by
            rw [HV, g0, g1, g2, g3, el]
            have hp : 0 < Nat.gcd t.natAbs l.natAbs := Nat.gcd_pos_of_pos_right _ (by omega)
            generalize Nat.gcd t.natAbs l.natAbs = G at hp
            unfold sgnI
            by_cases hG : G = 1
            · subst hG; rfl
            · rw [if_neg (show ¬ ((G : Int) - 1 < 0) by omega), if_neg (show ¬ ((G : Int) - 1 = 0) by omega)]
              have : (G == 1) = false := beq_eq_false_iff_ne.2 hG
              rw [this]
              rfl
          rw [e]
          exact H

end Go.Proofs.Ytfhmhkbjcccejaa

namespace Go.Proofs.Ytfhmhkbjcccejaa
open Go Go.RowKit

section
variable {P : Program} {ops : Array Oper} {Q : Exit → Act → World → Prop}

/-- Every operation but the last one makes a value; the last one stores and comes after all others; what is left speaks of the values, too. -/
theorem wp_region_flow_storev {id : Nat} {T : Array Value} {df : List Deferred} {w : World} (n : Nat) (S : List Nat) (d : Nat → Nat) (Fix : World → Prop) (End : (Nat → Value) → World → Prop) (G : Nat → Value → World → Prop)
    (hm : P.follows .mixedOrders = true) (hf : forward .any ops = true) (hS : S.all (fun j => decide (j < T.size)) = true) (hn : ops.size = n + 1)
    (hlast : ((List.range n).all fun i => ((ops[n]?).map fun o => o.after.any fun e => Region.binds .any e && (e.on == i)).getD false) = true)
    (hd : ∀ i j, i < n → j < n → d i = d j → i = j) (hdS : ∀ i, i < n → d i ∈ S)
    (hkeep : ∀ wx wy, Fix wx → Below wx.heap.size wx wy → Fix wy) (hG : ∀ i u wx wy, Below wx.heap.size wx wy → G i u wx → G i u wy)
    (h0 : Fix w.drew)
    (hstep : ∀ (i : Nat) (v : Nat → Value) (wx : World) (o : Oper) (T' : Array Value) (K : Act → World → Prop), i < n → ops[i]? = some o → Fix wx → (∀ e ∈ o.after, Region.binds .any e = true → G e.on (v (d e.on)) wx) →
      (∀ j, j ∈ S → T'[j]? = some (v j)) → (∀ j, j ∉ S → T'[j]? = T[j]?) →
      (∀ x w', Below wx.heap.size wx w' → G i x w' → K ⟨T'.setIfInBounds (d i) x, df⟩ w') →
      if Region.wanted o (yielded ops T') = true then Oper.wp P o ⟨T', df⟩ wx K Q else K (Act.put ⟨T', df⟩ o.dst undef) wx)
    (hstore : ∀ (v : Nat → Value) (wx : World) (o : Oper) (T' : Array Value) (K : Act → World → Prop), ops[n]? = some o → Fix wx → (∀ i, i < n → G i (v (d i)) wx) →
      (∀ j, j ∈ S → T'[j]? = some (v j)) → (∀ j, j ∉ S → T'[j]? = T[j]?) → (∀ w', End v w' → K ⟨T', df⟩ w') →
      if Region.wanted o (yielded ops T') = true then Oper.wp P o ⟨T', df⟩ wx K Q else K (Act.put ⟨T', df⟩ o.dst undef) wx)
    (hend : ∀ (v : Nat → Value) (wx : World), End v wx → Q .normal ⟨over T S v, df⟩ wx) :
    (Code.region id ops true).wp P Q ⟨T, df⟩ w := by
  refine wp_region_inv3 S (fun b v wx => (b n = false → Fix wx ∧ ∀ i, i < n → b i = true → G i (v (d i)) wx) ∧ (b n = true → (∀ i, i < n → b i = true) ∧ End v wx)) hm hf hS ⟨fun _ => ⟨h0, fun _ _ h => Bool.noConfusion h⟩, fun h => Bool.noConfusion h⟩ ?_ ?_
  · rintro i b v wx o T' K ho hdep hb ⟨h1, h2⟩ hin hout hK hK'
    have hi : i < n + 1 := by rw [← hn]; exact (Array.getElem?_eq_some_iff.1 ho).1
    by_cases hl : i = n
    · subst hl
      obtain ⟨hF, hall⟩ := h1 hb
      have hbi : ∀ j, j < i → b j = true := fun j hj => by
        have h := List.all_eq_true.1 hlast j (List.mem_range.2 hj)
        simp only [ho, Option.map_some, Option.getD_some] at h
        obtain ⟨k, hk, hp⟩ := Array.any_eq_true.1 h
        have he : o.after[k] ∈ o.after := Array.getElem_mem hk
        generalize o.after[k] = e at hp he
        have hp' := Bool.and_eq_true_iff.1 hp
        have e1 := hdep e he hp'.1
        rw [beq_iff_eq.1 hp'.2] at e1
        exact e1
      refine hstore v wx o T' K ho hF (fun j hj => hall j hj (hbi j hj)) hin hout (fun w' hE => hK' _ ⟨fun h => ?_, fun _ => ⟨fun j hj => ?_, hE⟩⟩)
      · unfold updB at h
        rw [if_pos rfl] at h
        exact Bool.noConfusion h
      · unfold updB
        rw [if_neg (by omega)]
        exact hbi j hj
    · have hi' : i < n := by omega
      have hbn : b n = false := by
        cases hbn : b n with
        | false => rfl
        | true => exact absurd ((h2 hbn).1 i hi') (by rw [hb]; decide)
      obtain ⟨hF, hall⟩ := h1 hbn
      have hon : ∀ e ∈ o.after, Region.binds .any e = true → e.on < n := fun e he hbd => by
        have h := List.all_eq_true.1 hf i (List.mem_range.2 (by omega))
        simp only [ho, Option.map_some, Option.getD_some] at h
        have h2 := (Array.all_eq_true_iff_forall_mem.1 h) e he
        have : e.on < i := by simpa [hbd] using h2
        omega
      refine hstep i v wx o T' K hi' ho hF (fun e he hbd => hall _ (hon e he hbd) (hdep e he hbd)) hin hout (fun x w' hB hx => hK _ _ _ (hdS i hi') ⟨fun _ => ⟨hkeep _ _ hF hB, fun j hj hbj => ?_⟩, fun h => ?_⟩)
      · by_cases e : j = i
        · subst e
          have e2 : updV v (d j) x (d j) = x := by unfold updV; rw [if_pos rfl]
          rw [e2]
          exact hx
        · rw [updV_other hd hi' hj e]
          unfold updB at hbj
          rw [if_neg e] at hbj
          exact hG _ _ _ _ hB (hall j hj hbj)
      · unfold updB at h
        rw [if_neg (Ne.symm hl)] at h
        rw [hbn] at h
        exact Bool.noConfusion h
  · rintro b v wx hb ⟨-, h2⟩
    exact hend v wx (h2 (hb n (by omega))).2
end

end Go.Proofs.Ytfhmhkbjcccejaa

namespace Go.Proofs.Ytfhmhkbjcccejaa
open Go.RowKit

set_option maxRecDepth 100000 in
set_option maxHeartbeats 20000000 in
theorem rv_whole (n : Int) (x : Rat) (w : World) (hx : x.num = n ∧ (x.den : Int) = 1) (h1 : -9223372036854775808 ≤ n) (h2 : n ≤ 9223372036854775807) : Calls Try.prog 50 #[.int .i64 n] w (RetV (.rat x) w) := by
  have HO1 : Hid (∀ wx, Calls Try.prog 29 #[.int .i64 n] wx (RetV (.int n) wx)) := fun wx => iv_of n wx h1 h2
  have HO2 : Hid (∀ wx, Calls Try.prog 29 #[.int .i64 1] wx (RetV (.int 1) wx)) := fun wx => iv_of 1 wx (by decide) (by decide)
  have HE := Lib.hid hx
  clear h1 h2 hx
  go_enter Try.func50, Try.ntmps50
  go_upto_region 1 with fail
  generalize hX : w.alloc _ = X
  have HX : Hid (Below w.heap.size w X ∧ W6 w.heap.size X) := by
    subst hX
    exact ⟨below_alloc _ _, W6.new _ _ _ _ _ _ _ rfl⟩
  clear hX
  go_wp2_with fail
  (with_reducible refine (HO1.out _).mono ?_)
  rintro e w1 ⟨u, rfl, hu, hB1⟩
  obtain ⟨s1, n1, A1, m1, c1, rfl, hR1⟩ := hu
  have HR1 := Lib.hid hR1
  have HX1 : Hid (Below w.heap.size w w1 ∧ W6 w.heap.size w1) := ⟨HX.out.1.trans (hB1.mono HX.out.1.size), HX.out.2.keep hB1⟩
  clear hR1 hB1 HX
  go_wp2_with fail
  (with_reducible refine (HO2.out _).mono ?_)
  rintro e w2 ⟨u, rfl, hu, hB2⟩
  obtain ⟨s2, n2, A2, m2, c2, rfl, hR2⟩ := hu
  have HR2 := Lib.hid hR2
  have HR1' := Lib.hid (HR1.out.keep hB2)
  have HX2 : Hid (Below w.heap.size w w2 ∧ W6 w.heap.size w2) := ⟨HX1.out.1.trans (hB2.mono HX1.out.1.size), HX1.out.2.keep hB2⟩
  clear hR2 hB2 HX1 HR1
  obtain ⟨⟨o0, o1, o2, o3, o4, o5, p0, p1, p2, p3, p4, p5⟩, ⟨f0, f1, f2, f3, f4, f5⟩, -⟩ := HX2.out.2
  go_wp2_with fail
  have hr1 := HR1'.out
  have hr2 := HR2.out
  rw [← HE.out.1] at hr1
  rw [← HE.out.2] at hr2
  refine bodyPost_ret (v := .agg #[.int .i64 s1, .bool n1, .slice A1 m1 c1, .int .i64 s2, .bool n2, .slice A2 m2 c2]) (by simp [results, Try.results50, go_sem, p0, p1, p2, p3, p4, p5]) rfl ?_
  have H : RetRt x.num (x.den : Int) w (.returned (.agg #[.int .i64 s1, .bool n1, .slice A1 m1 c1, .int .i64 s2, .bool n2, .slice A2 m2 c2])) (set6 w2 w.heap.size (.int .i64 s1) (.bool n1) (.slice A1 m1 c1) (.int .i64 s2) (.bool n2) (.slice A2 m2 c2)) := retRt_box0 HX2.out.1 (Nat.le_refl _) hr1 hr2 HX2.out.2.2.2
  obtain ⟨a1, a2, a3, a4, a5, a6, a7, a8, a9, a10, ae, k1, k2, k3⟩ := H
  exact ⟨_, rfl, ⟨a1, a2, a3, a4, a5, a6, a7, a8, a9, a10, by injection ae, k1, k2⟩, k3⟩

set_option maxRecDepth 100000 in
set_option maxHeartbeats 20000000 in
theorem rv_down (K : Nat) {u : Value} {x : Rat} {w : World} (h : RFV w u x) (h0 : 0 ≤ x.num) (hK : K ≤ 250000) (hx : x.num.natAbs < Bs ^ K ∧ x.den < Bs ^ K) : Calls Try.prog 75 #[u] w (RetV (.int (x.num.tdiv (x.den : Int))) w) := by
  obtain ⟨s1, n1, A1, m1, c1, s2, n2, A2, m2, c2, rfl, r1, r2⟩ := h
  have hd : (x.den : Int) ≠ 0 := by have := x.den_nz; omega
  have HO : Hid (∀ wx, Below w.heap.size w wx → Calls Try.prog 61 #[.agg #[.int .i64 s1, .bool n1, .slice A1 m1 c1], .agg #[.int .i64 s2, .bool n2, .slice A2 m2 c2]] wx (RetII (x.num.tdiv (x.den : Int)) (x.num.tmod (x.den : Int)) wx)) := fun wx hb =>
    rover_any _ _ _ _ _ _ _ _ _ _ K _ _ wx (r1.keep hb) (r2.keep hb) hK hx.1 (den_bound x hx.2) hd
  have hrb : (x.num.tmod (x.den : Int)).natAbs < Bs ^ K := by
    rw [Int.natAbs_tmod]
    exact Nat.lt_of_le_of_lt (Nat.mod_le _ _) hx.1
  have hr0 : 0 ≤ x.num.tmod (x.den : Int) := Int.tmod_nonneg _ h0
  have HS : Hid (∀ wx s n A m c, RI wx s n A m c (x.num.tmod (x.den : Int)) → Calls Try.prog 59 #[.agg #[.int .i64 s, .bool n, .slice A m c]] wx fun e w' => e = .returned (.int .i64 (sgnI (x.num.tmod (x.den : Int)))) ∧ Below wx.heap.size wx w') := fun wx s n A m c k => rsign_any s n A m c _ wx k (by have := k.len hrb; omega)
  have hg : decide (sgnI (x.num.tmod (x.den : Int)) < 0) = false := by
    rw [sgn_lt]
    exact decide_eq_false (by omega)
  clear r1 r2 hK hx hd hrb hr0 h0
  generalize sgnI (x.num.tmod (x.den : Int)) = q at HS hg
  generalize x.num.tdiv (x.den : Int) = zq at HO ⊢
  generalize x.num.tmod (x.den : Int) = zr at HO HS
  go_enter Try.func75, Try.ntmps75
  go_upto_region 1 with fail
  generalize hX : (w.alloc _).alloc _ = X
  have HX : Hid (Below w.heap.size w X ∧ W3 (w.heap.size + 1) X) := by
    subst hX
    exact ⟨below_two w _ _, W3.new _ _ _ _ (by simp)⟩
  obtain ⟨k0, k1, k2, k3, k4, k5⟩ : X.cell? ⟨w.heap.size, 0, none⟩ = some (.int .i64 s1) ∧ X.cell? ⟨w.heap.size, 1, none⟩ = some (.bool n1) ∧ X.cell? ⟨w.heap.size, 2, none⟩ = some (.slice A1 m1 c1) ∧ X.cell? ⟨w.heap.size, 3, none⟩ = some (.int .i64 s2) ∧ X.cell? ⟨w.heap.size, 4, none⟩ = some (.bool n2) ∧ X.cell? ⟨w.heap.size, 5, none⟩ = some (.slice A2 m2 c2) := by
    subst hX
    simp [go_sem]
  clear hX
  go_wp2_with fail
  (with_reducible refine (HO.out _ HX.out.1).mono ?_)
  rintro e w1 ⟨s3, n3, A3, m3, c3, s4, n4, A4, m4, c4, rfl, hR3, hR4, hB1⟩
  have HX1 : Hid (Below w.heap.size w w1 ∧ W3 (w.heap.size + 1) w1) := ⟨HX.out.1.trans (hB1.mono HX.out.1.size), HX.out.2.keep hB1⟩
  have HR3 := Lib.hid hR3
  have HR4 := Lib.hid hR4
  clear k0 k1 k2 k3 k4 k5 hR3 hR4 hB1 HX HO
  go_upto_region 2 with fail
  generalize hY : (w1.alloc _).alloc _ = Y
  have HY : Hid (Below w1.heap.size w1 Y ∧ B3 w1.heap.size (.int .i64 s3) (.bool n3) (.slice A3 m3 c3) Y ∧ B3 (w1.heap.size + 1) (.int .i64 s4) (.bool n4) (.slice A4 m4 c4) Y) := by
    subst hY
    exact ⟨below_two w1 _ _, by simp [B3, go_sem], by simp [B3, go_sem]⟩
  clear hY
  obtain ⟨j0, j1, j2, -⟩ := HY.out.2.2
  have HR4' := Lib.hid (HR4.out.keep HY.out.1)
  go_wp2_with fail
  (with_reducible refine (HS.out _ _ _ _ _ _ HR4'.out).mono ?_)
  rintro e w2 ⟨rfl, hB2⟩
  obtain ⟨i0, i1, i2, -⟩ := HY.out.2.1.keep hB2
  have HR3' := Lib.hid ((HR3.out.keep HY.out.1).keep hB2)
  have HX2 : Hid (Below w.heap.size w w2 ∧ W3 (w.heap.size + 1) w2) := ⟨(HX1.out.1.trans (HY.out.1.mono HX1.out.1.size)).trans (hB2.mono (Nat.le_trans HX1.out.1.size HY.out.1.size)), (HX1.out.2.keep HY.out.1).keep hB2⟩
  clear j0 j1 j2 hB2 HY HR4 HR4' HR3 HX1 HS
  obtain ⟨⟨o0, o1, o2, p0, p1, p2⟩, f0, f1, f2, -⟩ := HX2.out.2
  go_wp2_with fail
  refine bodyPost_ret (v := .agg #[.int .i64 s3, .bool n3, .slice A3 m3 c3]) (by simp [results, Try.results75, go_sem, p0, p1, p2]) rfl ?_
  have H : IV (set3 w2 (w.heap.size + 1) (.int .i64 s3) (.bool n3) (.slice A3 m3 c3)) (.agg #[.int .i64 s3, .bool n3, .slice A3 m3 c3]) zq := ⟨s3, n3, A3, m3, c3, rfl, HR3'.out.set_3 HX2.out.2 _ _ _⟩
  have H2 : Below w.heap.size w (set3 w2 (w.heap.size + 1) (.int .i64 s3) (.bool n3) (.slice A3 m3 c3)) := set3_below HX2.out.1 (Nat.le_succ _) _ _ _
  exact ⟨_, rfl, H, H2⟩

end Go.Proofs.Ytfhmhkbjcccejaa

namespace Go.Proofs.Ytfhmhkbjcccejaa
open Go.RowKit

/-- A box that holds a fraction. -/
def BR (w : World) (g : Nat) (x : Rat) : Prop := ∃ s neg A n c s' neg' A' n' c', B6 g (.int .i64 s) (.bool neg) (.slice A n c) (.int .i64 s') (.bool neg') (.slice A' n' c') w ∧ RI w s neg A n c x.num ∧ RI w s' neg' A' n' c' (x.den : Int)
theorem BR.keep {w w' : World} {g : Nat} {x : Rat} (h : BR w g x) (hb : Below w.heap.size w w') : BR w' g x := by
  obtain ⟨s, neg, A, n, c, s', neg', A', n', c', h1, h2, h3⟩ := h
  exact ⟨s, neg, A, n, c, s', neg', A', n', c', h1.keep hb, h2.keep hb, h3.keep hb⟩
theorem BR.lt {w : World} {g : Nat} {x : Rat} (h : BR w g x) : g < w.heap.size := by
  obtain ⟨s, neg, A, n, c, s', neg', A', n', c', h1, h2, h3⟩ := h
  exact h1.2.2.2.2.2.2
theorem size_set6 (w : World) (g : Nat) (a b c d e f : Value) : w.heap.size ≤ (set6 w g a b c d e f).heap.size := Nat.le_trans (Nat.le_trans (Nat.le_trans (size_set _ _ _ _) (size_set _ _ _ _)) (size_set _ _ _ _)) (Nat.le_trans (Nat.le_trans (size_set _ _ _ _) (size_set _ _ _ _)) (size_set _ _ _ _))
theorem heap_set6 {g k : Nat} (w : World) (hk : g ≠ k) (a b c d e f : Value) : (set6 w k a b c d e f).heap[g]? = w.heap[g]? :=
  (((((Below.heap_setCell _ _ _ _ hk).trans (Below.heap_setCell _ _ _ _ hk)).trans (Below.heap_setCell _ _ _ _ hk)).trans (Below.heap_setCell _ _ _ _ hk)).trans (Below.heap_setCell _ _ _ _ hk)).trans (Below.heap_setCell _ _ _ _ hk)
theorem B6.set_6 {g k : Nat} {p q r p' q' r' : Value} {w : World} (h : B6 g p q r p' q' r' w) (hk : g ≠ k) (a b c d e f : Value) : B6 g p q r p' q' r' (set6 w k a b c d e f) := by
  obtain ⟨h0, h1, h2, h3, h4, h5, hz⟩ := h
  have e' := heap_set6 w hk a b c d e f
  exact ⟨(World.cell?_of_block (w := w) (a := ⟨g, 0, none⟩) e').trans h0, (World.cell?_of_block (w := w) (a := ⟨g, 1, none⟩) e').trans h1, (World.cell?_of_block (w := w) (a := ⟨g, 2, none⟩) e').trans h2, (World.cell?_of_block (w := w) (a := ⟨g, 3, none⟩) e').trans h3, (World.cell?_of_block (w := w) (a := ⟨g, 4, none⟩) e').trans h4, (World.cell?_of_block (w := w) (a := ⟨g, 5, none⟩) e').trans h5, Nat.lt_of_lt_of_le hz (size_set6 _ _ _ _ _ _ _ _)⟩
theorem W6.set_6 {g k : Nat} {w : World} (h : W6 g w) (hk : g ≠ k) (a b c d e f : Value) : W6 g (set6 w k a b c d e f) := by
  have e' := heap_set6 w hk a b c d e f
  have hx : Bx (set6 w k a b c d e f) g 38 := (((((h.2.2.set _ _ _).set _ _ _).set _ _ _).set _ _ _).set _ _ _).set _ _ _
  exact h.of (fun _ => World.cell?_of_block (w := w) (a := ⟨g, _, none⟩) e') (fun _ => World.frozen?_of_block (w := w) (a := ⟨g, _, none⟩) e') hx
theorem BR.set_6 {w : World} {g k : Nat} {x : Rat} (h : BR w g x) (hk : g ≠ k) (hw : W6 k w) (a b c d e f : Value) : BR (set6 w k a b c d e f) g x := by
  obtain ⟨s, neg, A, n, m, s', neg', A', n', m', h1, h2, h3⟩ := h
  exact ⟨s, neg, A, n, m, s', neg', A', n', m', h1.set_6 hk _ _ _ _ _ _, h2.set_6 hw.2.2 _ _ _ _ _ _, h3.set_6 hw.2.2 _ _ _ _ _ _⟩
theorem BR.put {w : World} {g : Nat} {x : Rat} {s s' : Int} {neg neg' : Bool} {A A' : Option Addr} {n c n' c' : Nat} (hW : W6 g w) (h : RI w s neg A n c x.num) (h' : RI w s' neg' A' n' c' (x.den : Int)) : BR (set6 w g (.int .i64 s) (.bool neg) (.slice A n c) (.int .i64 s') (.bool neg') (.slice A' n' c')) g x :=
  ⟨s, neg, A, n, c, s', neg', A', n', c', hW.put _ _ _ _ _ _, h.set_6 hW.2.2 _ _ _ _ _ _, h'.set_6 hW.2.2 _ _ _ _ _ _⟩

theorem W6.put' {g : Nat} {w : World} (h : W6 g w) (a b c d e f : Value) : W6 g (set6 w g a b c d e f) := by
  have hb := h.put a b c d e f
  obtain ⟨-, ⟨f0, f1, f2, f3, f4, f5⟩, hx⟩ := h
  obtain ⟨b0, b1, b2, b3, b4, b5, -⟩ := hb
  refine ⟨⟨a, b, c, d, e, f, b0, b1, b2, b3, b4, b5⟩, ?_, (((((hx.set _ _ _).set _ _ _).set _ _ _).set _ _ _).set _ _ _).set _ _ _⟩
  refine ⟨?_, ?_, ?_, ?_, ?_, ?_⟩ <;> simp [set6, go_sem, f0, f1, f2, f3, f4, f5]

end Go.Proofs.Ytfhmhkbjcccejaa
