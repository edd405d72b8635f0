/- The reference: whole numbers as fractions, and the integer part of a fraction that is not negative. A region whose order is drawn, whose last operation stores: the end speaks of the values. simplest of the reference: the walks. simplest of the reference: the contract. simplest of the reference: the contract. All of the reference, for two numbers. Between of the reference: the walks. Between of the reference, and the law NumBetween. diceboxlaw01.NumBetween: the walk, and the law for all numbers. -/
import Derived.Test.YtjoanclnaeephaaMRe
import Derived.Test.YtjoanclnaeephaaMRd
import Derived.Test.YtjoanclnaeephaaMLa
import Derived.Test.YtjoanclnaeephaaRat4
import Derived.Test.YtjoanclnaeephaaMPb

namespace Go.Proofs.Ytjoanclnaeephaa
open Go.RowKit

set_option maxRecDepth 100000 in
set_option maxHeartbeats 20000000 in
theorem rv_whole (n : Int) (x : Rat) (w : World) (hx : x.num = n ∧ (x.den : Int) = 1) (h1 : -9223372036854775808 ≤ n) (h2 : n ≤ 9223372036854775807) : Calls Try.prog 50 #[.int .i64 n] w (RetV (.rat x) w) := by
  have HO1 : Hid (∀ wx, Calls Try.prog 29 #[.int .i64 n] wx (RetV (.int n) wx)) := fun wx => iv_of n wx h1 h2
  have HO2 : Hid (∀ wx, Calls Try.prog 29 #[.int .i64 1] wx (RetV (.int 1) wx)) := fun wx => iv_of 1 wx (by decide) (by decide)
  have HE := Lib.hid hx
  clear h1 h2 hx
  go_enter Try.func50, Try.ntmps50
  go_upto_region 1 with fail
  generalize hX : w.alloc _ = X
  have HX : Hid (Below w.heap.size w X ∧ W6 w.heap.size X) := by
    subst hX
    exact ⟨below_alloc _ _, W6.new _ _ _ _ _ _ _ rfl⟩
  clear hX
  go_wp2_with fail
  (with_reducible refine (HO1.out _).mono ?_)
  rintro e w1 ⟨u, rfl, hu, hB1⟩
  obtain ⟨s1, n1, A1, m1, c1, rfl, hR1⟩ := hu
  have HR1 := Lib.hid hR1
  have HX1 : Hid (Below w.heap.size w w1 ∧ W6 w.heap.size w1) := ⟨HX.out.1.trans (hB1.mono HX.out.1.size), HX.out.2.keep hB1⟩
  clear hR1 hB1 HX
  go_wp2_with fail
  (with_reducible refine (HO2.out _).mono ?_)
  rintro e w2 ⟨u, rfl, hu, hB2⟩
  obtain ⟨s2, n2, A2, m2, c2, rfl, hR2⟩ := hu
  have HR2 := Lib.hid hR2
  have HR1' := Lib.hid (HR1.out.keep hB2)
  have HX2 : Hid (Below w.heap.size w w2 ∧ W6 w.heap.size w2) := ⟨HX1.out.1.trans (hB2.mono HX1.out.1.size), HX1.out.2.keep hB2⟩
  clear hR2 hB2 HX1 HR1
  obtain ⟨⟨o0, o1, o2, o3, o4, o5, p0, p1, p2, p3, p4, p5⟩, ⟨f0, f1, f2, f3, f4, f5⟩, -⟩ := HX2.out.2
  go_wp2_with fail
  have hr1 := HR1'.out
  have hr2 := HR2.out
  rw [← HE.out.1] at hr1
  rw [← HE.out.2] at hr2
  refine bodyPost_ret (v := .agg #[.int .i64 s1, .bool n1, .slice A1 m1 c1, .int .i64 s2, .bool n2, .slice A2 m2 c2]) (by simp [results, Try.results50, go_sem, p0, p1, p2, p3, p4, p5]) rfl ?_
  have H : RetRt x.num (x.den : Int) w (.returned (.agg #[.int .i64 s1, .bool n1, .slice A1 m1 c1, .int .i64 s2, .bool n2, .slice A2 m2 c2])) (set6 w2 w.heap.size (.int .i64 s1) (.bool n1) (.slice A1 m1 c1) (.int .i64 s2) (.bool n2) (.slice A2 m2 c2)) := retRt_box0 HX2.out.1 (Nat.le_refl _) hr1 hr2 HX2.out.2.2.2
  obtain ⟨a1, a2, a3, a4, a5, a6, a7, a8, a9, a10, ae, k1, k2, k3⟩ := H
  exact ⟨_, rfl, ⟨a1, a2, a3, a4, a5, a6, a7, a8, a9, a10, by injection ae, k1, k2⟩, k3⟩

set_option maxRecDepth 100000 in
set_option maxHeartbeats 20000000 in
theorem rv_down (K : Nat) {u : Value} {x : Rat} {w : World} (h : RFV w u x) (h0 : 0 ≤ x.num) (hK : K ≤ 250000) (hx : x.num.natAbs < Bs ^ K ∧ x.den < Bs ^ K) : Calls Try.prog 75 #[u] w (RetV (.int (x.num.tdiv (x.den : Int))) w) := by
  obtain ⟨s1, n1, A1, m1, c1, s2, n2, A2, m2, c2, rfl, r1, r2⟩ := h
  have hd : (x.den : Int) ≠ 0 := by have := x.den_nz; omega
  have HO : Hid (∀ wx, Below w.heap.size w wx → Calls Try.prog 61 #[.agg #[.int .i64 s1, .bool n1, .slice A1 m1 c1], .agg #[.int .i64 s2, .bool n2, .slice A2 m2 c2]] wx (RetII (x.num.tdiv (x.den : Int)) (x.num.tmod (x.den : Int)) wx)) := fun wx hb =>
    rover_any _ _ _ _ _ _ _ _ _ _ K _ _ wx (r1.keep hb) (r2.keep hb) hK hx.1 (den_bound x hx.2) hd
  have hrb : (x.num.tmod (x.den : Int)).natAbs < Bs ^ K := by
    rw [Int.natAbs_tmod]
    exact Nat.lt_of_le_of_lt (Nat.mod_le _ _) hx.1
  have hr0 : 0 ≤ x.num.tmod (x.den : Int) := Int.tmod_nonneg _ h0
  have HS : Hid (∀ wx s n A m c, RI wx s n A m c (x.num.tmod (x.den : Int)) → Calls Try.prog 59 #[.agg #[.int .i64 s, .bool n, .slice A m c]] wx fun e w' => e = .returned (.int .i64 (sgnI (x.num.tmod (x.den : Int)))) ∧ Below wx.heap.size wx w') := fun wx s n A m c k => rsign_any s n A m c _ wx k (by have := k.len hrb; omega)
  have hg : decide (sgnI (x.num.tmod (x.den : Int)) < 0) = false := by
    rw [sgn_lt]
    exact decide_eq_false (by omega)
  clear r1 r2 hK hx hd hrb hr0 h0
  generalize sgnI (x.num.tmod (x.den : Int)) = q at HS hg
  generalize x.num.tdiv (x.den : Int) = zq at HO ⊢
  generalize x.num.tmod (x.den : Int) = zr at HO HS
  go_enter Try.func75, Try.ntmps75
  go_upto_region 1 with fail
  generalize hX : (w.alloc _).alloc _ = X
  have HX : Hid (Below w.heap.size w X ∧ W3 (w.heap.size + 1) X) := by
    subst hX
    exact ⟨below_two w _ _, W3.new _ _ _ _ (by simp)⟩
  obtain ⟨k0, k1, k2, k3, k4, k5⟩ : X.cell? ⟨w.heap.size, 0, none⟩ = some (.int .i64 s1) ∧ X.cell? ⟨w.heap.size, 1, none⟩ = some (.bool n1) ∧ X.cell? ⟨w.heap.size, 2, none⟩ = some (.slice A1 m1 c1) ∧ X.cell? ⟨w.heap.size, 3, none⟩ = some (.int .i64 s2) ∧ X.cell? ⟨w.heap.size, 4, none⟩ = some (.bool n2) ∧ X.cell? ⟨w.heap.size, 5, none⟩ = some (.slice A2 m2 c2) := by
    subst hX
    simp [go_sem]
  clear hX
  go_wp2_with fail
  (with_reducible refine (HO.out _ HX.out.1).mono ?_)
  rintro e w1 ⟨s3, n3, A3, m3, c3, s4, n4, A4, m4, c4, rfl, hR3, hR4, hB1⟩
  have HX1 : Hid (Below w.heap.size w w1 ∧ W3 (w.heap.size + 1) w1) := ⟨HX.out.1.trans (hB1.mono HX.out.1.size), HX.out.2.keep hB1⟩
  have HR3 := Lib.hid hR3
  have HR4 := Lib.hid hR4
  clear k0 k1 k2 k3 k4 k5 hR3 hR4 hB1 HX HO
  go_upto_region 2 with fail
  generalize hY : (w1.alloc _).alloc _ = Y
  have HY : Hid (Below w1.heap.size w1 Y ∧ B3 w1.heap.size (.int .i64 s3) (.bool n3) (.slice A3 m3 c3) Y ∧ B3 (w1.heap.size + 1) (.int .i64 s4) (.bool n4) (.slice A4 m4 c4) Y) := by
    subst hY
    exact ⟨below_two w1 _ _, by simp [B3, go_sem], by simp [B3, go_sem]⟩
  clear hY
  obtain ⟨j0, j1, j2, -⟩ := HY.out.2.2
  have HR4' := Lib.hid (HR4.out.keep HY.out.1)
  go_wp2_with fail
  (with_reducible refine (HS.out _ _ _ _ _ _ HR4'.out).mono ?_)
  rintro e w2 ⟨rfl, hB2⟩
  obtain ⟨i0, i1, i2, -⟩ := HY.out.2.1.keep hB2
  have HR3' := Lib.hid ((HR3.out.keep HY.out.1).keep hB2)
  have HX2 : Hid (Below w.heap.size w w2 ∧ W3 (w.heap.size + 1) w2) := ⟨(HX1.out.1.trans (HY.out.1.mono HX1.out.1.size)).trans (hB2.mono (Nat.le_trans HX1.out.1.size HY.out.1.size)), (HX1.out.2.keep HY.out.1).keep hB2⟩
  clear j0 j1 j2 hB2 HY HR4 HR4' HR3 HX1 HS
  obtain ⟨⟨o0, o1, o2, p0, p1, p2⟩, f0, f1, f2, -⟩ := HX2.out.2
  go_wp2_with fail
  refine bodyPost_ret (v := .agg #[.int .i64 s3, .bool n3, .slice A3 m3 c3]) (by simp [results, Try.results75, go_sem, p0, p1, p2]) rfl ?_
  have H : IV (set3 w2 (w.heap.size + 1) (.int .i64 s3) (.bool n3) (.slice A3 m3 c3)) (.agg #[.int .i64 s3, .bool n3, .slice A3 m3 c3]) zq := ⟨s3, n3, A3, m3, c3, rfl, HR3'.out.set_3 HX2.out.2 _ _ _⟩
  have H2 : Below w.heap.size w (set3 w2 (w.heap.size + 1) (.int .i64 s3) (.bool n3) (.slice A3 m3 c3)) := set3_below HX2.out.1 (Nat.le_succ _) _ _ _
  exact ⟨_, rfl, H, H2⟩

end Go.Proofs.Ytjoanclnaeephaa

namespace Go.Proofs.Ytjoanclnaeephaa
open Go Go.RowKit

section
variable {P : Program} {ops : Array Oper} {Q : Exit → Act → World → Prop}

/-- Every operation but the last one makes a value; the last one stores and comes after all others; what is left speaks of the values, too. -/
theorem wp_region_flow_storev {id : Nat} {T : Array Value} {df : List Deferred} {w : World} (n : Nat) (S : List Nat) (d : Nat → Nat) (Fix : World → Prop) (End : (Nat → Value) → World → Prop) (G : Nat → Value → World → Prop)
    (hm : P.follows .mixedOrders = true) (hf : forward .any ops = true) (hS : S.all (fun j => decide (j < T.size)) = true) (hn : ops.size = n + 1)
    (hlast : ((List.range n).all fun i => ((ops[n]?).map fun o => o.after.any fun e => Region.binds .any e && (e.on == i)).getD false) = true)
    (hd : ∀ i j, i < n → j < n → d i = d j → i = j) (hdS : ∀ i, i < n → d i ∈ S)
    (hkeep : ∀ wx wy, Fix wx → Below wx.heap.size wx wy → Fix wy) (hG : ∀ i u wx wy, Below wx.heap.size wx wy → G i u wx → G i u wy)
    (h0 : Fix w.drew)
    (hstep : ∀ (i : Nat) (v : Nat → Value) (wx : World) (o : Oper) (T' : Array Value) (K : Act → World → Prop), i < n → ops[i]? = some o → Fix wx → (∀ e ∈ o.after, Region.binds .any e = true → G e.on (v (d e.on)) wx) →
      (∀ j, j ∈ S → T'[j]? = some (v j)) → (∀ j, j ∉ S → T'[j]? = T[j]?) →
      (∀ x w', Below wx.heap.size wx w' → G i x w' → K ⟨T'.setIfInBounds (d i) x, df⟩ w') →
      if Region.wanted o (yielded ops T') = true then Oper.wp P o ⟨T', df⟩ wx K Q else K (Act.put ⟨T', df⟩ o.dst undef) wx)
    (hstore : ∀ (v : Nat → Value) (wx : World) (o : Oper) (T' : Array Value) (K : Act → World → Prop), ops[n]? = some o → Fix wx → (∀ i, i < n → G i (v (d i)) wx) →
      (∀ j, j ∈ S → T'[j]? = some (v j)) → (∀ j, j ∉ S → T'[j]? = T[j]?) → (∀ w', End v w' → K ⟨T', df⟩ w') →
      if Region.wanted o (yielded ops T') = true then Oper.wp P o ⟨T', df⟩ wx K Q else K (Act.put ⟨T', df⟩ o.dst undef) wx)
    (hend : ∀ (v : Nat → Value) (wx : World), End v wx → Q .normal ⟨over T S v, df⟩ wx) :
    (Code.region id ops true).wp P Q ⟨T, df⟩ w := by
  refine wp_region_inv3 S (fun b v wx => (b n = false → Fix wx ∧ ∀ i, i < n → b i = true → G i (v (d i)) wx) ∧ (b n = true → (∀ i, i < n → b i = true) ∧ End v wx)) hm hf hS ⟨fun _ => ⟨h0, fun _ _ h => Bool.noConfusion h⟩, fun h => Bool.noConfusion h⟩ ?_ ?_
  · rintro i b v wx o T' K ho hdep hb ⟨h1, h2⟩ hin hout hK hK'
    have hi : i < n + 1 := by rw [← hn]; exact (Array.getElem?_eq_some_iff.1 ho).1
    by_cases hl : i = n
    · subst hl
      obtain ⟨hF, hall⟩ := h1 hb
      have hbi : ∀ j, j < i → b j = true := fun j hj => by
        have h := List.all_eq_true.1 hlast j (List.mem_range.2 hj)
        simp only [ho, Option.map_some, Option.getD_some] at h
        obtain ⟨k, hk, hp⟩ := Array.any_eq_true.1 h
        have he : o.after[k] ∈ o.after := Array.getElem_mem hk
        generalize o.after[k] = e at hp he
        have hp' := Bool.and_eq_true_iff.1 hp
        have e1 := hdep e he hp'.1
        rw [beq_iff_eq.1 hp'.2] at e1
        exact e1
      refine hstore v wx o T' K ho hF (fun j hj => hall j hj (hbi j hj)) hin hout (fun w' hE => hK' _ ⟨fun h => ?_, fun _ => ⟨fun j hj => ?_, hE⟩⟩)
      · unfold updB at h
        rw [if_pos rfl] at h
        exact Bool.noConfusion h
      · unfold updB
        rw [if_neg (by omega)]
        exact hbi j hj
    · have hi' : i < n := by omega
      have hbn : b n = false := by
        cases hbn : b n with
        | false => rfl
        | true => exact absurd ((h2 hbn).1 i hi') (by rw [hb]; decide)
      obtain ⟨hF, hall⟩ := h1 hbn
      have hon : ∀ e ∈ o.after, Region.binds .any e = true → e.on < n := fun e he hbd => by
        have h := List.all_eq_true.1 hf i (List.mem_range.2 (by omega))
        simp only [ho, Option.map_some, Option.getD_some] at h
        have h2 := (Array.all_eq_true_iff_forall_mem.1 h) e he
        have : e.on < i := by simpa [hbd] using h2
        omega
      refine hstep i v wx o T' K hi' ho hF (fun e he hbd => hall _ (hon e he hbd) (hdep e he hbd)) hin hout (fun x w' hB hx => hK _ _ _ (hdS i hi') ⟨fun _ => ⟨hkeep _ _ hF hB, fun j hj hbj => ?_⟩, fun h => ?_⟩)
      · by_cases e : j = i
        · subst e
          have e2 : updV v (d j) x (d j) = x := by unfold updV; rw [if_pos rfl]
          rw [e2]
          exact hx
        · rw [updV_other hd hi' hj e]
          unfold updB at hbj
          rw [if_neg e] at hbj
          exact hG _ _ _ _ hB (hall j hj hbj)
      · unfold updB at h
        rw [if_neg (Ne.symm hl)] at h
        rw [hbn] at h
        exact Bool.noConfusion h
  · rintro b v wx hb ⟨-, h2⟩
    exact hend v wx (h2 (hb n (by omega))).2
end

end Go.Proofs.Ytjoanclnaeephaa

namespace Go.Proofs.Ytjoanclnaeephaa
open Go.RowKit

/-- A box that holds a fraction. -/
def BR (w : World) (g : Nat) (x : Rat) : Prop := ∃ s neg A n c s' neg' A' n' c', B6 g (.int .i64 s) (.bool neg) (.slice A n c) (.int .i64 s') (.bool neg') (.slice A' n' c') w ∧ RI w s neg A n c x.num ∧ RI w s' neg' A' n' c' (x.den : Int)
theorem BR.keep {w w' : World} {g : Nat} {x : Rat} (h : BR w g x) (hb : Below w.heap.size w w') : BR w' g x := by
  obtain ⟨s, neg, A, n, c, s', neg', A', n', c', h1, h2, h3⟩ := h
  exact ⟨s, neg, A, n, c, s', neg', A', n', c', h1.keep hb, h2.keep hb, h3.keep hb⟩
theorem BR.lt {w : World} {g : Nat} {x : Rat} (h : BR w g x) : g < w.heap.size := by
  obtain ⟨s, neg, A, n, c, s', neg', A', n', c', h1, h2, h3⟩ := h
  exact h1.2.2.2.2.2.2
theorem size_set6 (w : World) (g : Nat) (a b c d e f : Value) : w.heap.size ≤ (set6 w g a b c d e f).heap.size := Nat.le_trans (Nat.le_trans (Nat.le_trans (size_set _ _ _ _) (size_set _ _ _ _)) (size_set _ _ _ _)) (Nat.le_trans (Nat.le_trans (size_set _ _ _ _) (size_set _ _ _ _)) (size_set _ _ _ _))
theorem heap_set6 {g k : Nat} (w : World) (hk : g ≠ k) (a b c d e f : Value) : (set6 w k a b c d e f).heap[g]? = w.heap[g]? :=
  (((((Below.heap_setCell _ _ _ _ hk).trans (Below.heap_setCell _ _ _ _ hk)).trans (Below.heap_setCell _ _ _ _ hk)).trans (Below.heap_setCell _ _ _ _ hk)).trans (Below.heap_setCell _ _ _ _ hk)).trans (Below.heap_setCell _ _ _ _ hk)
theorem B6.set_6 {g k : Nat} {p q r p' q' r' : Value} {w : World} (h : B6 g p q r p' q' r' w) (hk : g ≠ k) (a b c d e f : Value) : B6 g p q r p' q' r' (set6 w k a b c d e f) := by
  obtain ⟨h0, h1, h2, h3, h4, h5, hz⟩ := h
  have e' := heap_set6 w hk a b c d e f
  exact ⟨(World.cell?_of_block (w := w) (a := ⟨g, 0, none⟩) e').trans h0, (World.cell?_of_block (w := w) (a := ⟨g, 1, none⟩) e').trans h1, (World.cell?_of_block (w := w) (a := ⟨g, 2, none⟩) e').trans h2, (World.cell?_of_block (w := w) (a := ⟨g, 3, none⟩) e').trans h3, (World.cell?_of_block (w := w) (a := ⟨g, 4, none⟩) e').trans h4, (World.cell?_of_block (w := w) (a := ⟨g, 5, none⟩) e').trans h5, Nat.lt_of_lt_of_le hz (size_set6 _ _ _ _ _ _ _ _)⟩
theorem W6.set_6 {g k : Nat} {w : World} (h : W6 g w) (hk : g ≠ k) (a b c d e f : Value) : W6 g (set6 w k a b c d e f) := by
  have e' := heap_set6 w hk a b c d e f
  have hx : Bx (set6 w k a b c d e f) g 38 := (((((h.2.2.set _ _ _).set _ _ _).set _ _ _).set _ _ _).set _ _ _).set _ _ _
  exact h.of (fun _ => World.cell?_of_block (w := w) (a := ⟨g, _, none⟩) e') (fun _ => World.frozen?_of_block (w := w) (a := ⟨g, _, none⟩) e') hx
theorem BR.set_6 {w : World} {g k : Nat} {x : Rat} (h : BR w g x) (hk : g ≠ k) (hw : W6 k w) (a b c d e f : Value) : BR (set6 w k a b c d e f) g x := by
  obtain ⟨s, neg, A, n, m, s', neg', A', n', m', h1, h2, h3⟩ := h
  exact ⟨s, neg, A, n, m, s', neg', A', n', m', h1.set_6 hk _ _ _ _ _ _, h2.set_6 hw.2.2 _ _ _ _ _ _, h3.set_6 hw.2.2 _ _ _ _ _ _⟩
theorem BR.put {w : World} {g : Nat} {x : Rat} {s s' : Int} {neg neg' : Bool} {A A' : Option Addr} {n c n' c' : Nat} (hW : W6 g w) (h : RI w s neg A n c x.num) (h' : RI w s' neg' A' n' c' (x.den : Int)) : BR (set6 w g (.int .i64 s) (.bool neg) (.slice A n c) (.int .i64 s') (.bool neg') (.slice A' n' c')) g x :=
  ⟨s, neg, A, n, c, s', neg', A', n', c', hW.put _ _ _ _ _ _, h.set_6 hW.2.2 _ _ _ _ _ _, h'.set_6 hW.2.2 _ _ _ _ _ _⟩

/-- What is known of a value, also that it points to a new box. -/
inductive Sb where
  | val (v : Value)
  | int (z : Int)
  | rat (x : Rat)
  | box (lo : Nat)
def Sb.ok : Sb → Value → World → Prop
  | .val v, u, _ => u = v
  | .int z, u, w => IV w u z
  | .rat x, u, w => RFV w u x
  | .box lo, u, w => ∃ g, u = .pointer (some ⟨g, 0, none⟩) ∧ lo < g ∧ W6 g w
theorem Sb.keep {s : Sb} {u : Value} {w w' : World} (h : s.ok u w) (hb : Below w.heap.size w w') : s.ok u w' := by
  cases s with
  | val v => exact h
  | int z => exact IV.keep h hb
  | rat x => exact RFV.keep h hb
  | box lo =>
    obtain ⟨g, e, h1, h2⟩ := h
    exact ⟨g, e, h1, h2.keep hb⟩
def Sbl (L : List Sb) (i : Nat) (u : Value) (w : World) : Prop := (L.getD i (.val (.int .i64 0))).ok u w
theorem Sbl.keep {L : List Sb} (i : Nat) (u : Value) (w w' : World) (hb : Below w.heap.size w w') (h : Sbl L i u w) : Sbl L i u w' := Sb.keep h hb

/-- The boxes of simplest: a, b, the result, the integer part. -/
structure FS (w : World) (gn : Nat) (x y n : Rat) (wx : World) : Prop where
  ord : w.heap.size + 1 + 1 < gn
  below : Below w.heap.size w wx
  ba : BR wx w.heap.size x
  bb : BR wx (w.heap.size + 1) y
  wc : W6 (w.heap.size + 1 + 1) wx
  bn : BR wx gn n
theorem FS.keep {w : World} {gn : Nat} {x y n : Rat} (wx wy : World) (h : FS w gn x y n wx) (hb : Below wx.heap.size wx wy) : FS w gn x y n wy :=
  ⟨h.ord, h.below.trans (hb.mono h.below.size), h.ba.keep hb, h.bb.keep hb, h.wc.keep hb, h.bn.keep hb⟩
/-- .. and the box of what follows. -/
structure FT (w : World) (gn gr : Nat) (x y n r : Rat) (wx : World) : Prop where
  fs : FS w gn x y n wx
  br : BR wx gr r
theorem FT.keep {w : World} {gn gr : Nat} {x y n r : Rat} (wx wy : World) (h : FT w gn gr x y n r wx) (hb : Below wx.heap.size wx wy) : FT w gn gr x y n r wy := ⟨h.fs.keep _ _ hb, h.br.keep hb⟩
theorem endR_br {w : World} {g : Nat} {x : Rat} {wf : World} (h : BR wf g x) (hb : Below w.heap.size w wf) : EndR w g x wf := by
  obtain ⟨s, neg, A, n, c, s', neg', A', n', c', h1, h2, h3⟩ := h
  exact ⟨s, neg, A, n, c, s', neg', A', n', c', h1, h2, h3, hb⟩

set_option maxRecDepth 100000 in
set_option maxHeartbeats 20000000 in
theorem rs_one {u u' : Value} (x y n : Rat) (n0 q : Int) (w : World) (h : RFV w u x) (h' : RFV w u' y) (g0 : (q == 0) = true)
    (HD : Hid (∀ wx u, RFV wx u x → Calls Try.prog 75 #[u] wx (RetV (.int n0) wx))) (HO : Hid (∀ wx, Calls Try.prog 29 #[.int .i64 1] wx (RetV (.int 1) wx))) (hn : Hid (n.num = n0 ∧ (n.den : Int) = 1)) (HCn : Hid (∀ wx u u', RFV wx u x → RFV wx u' n → Calls Try.prog 19 #[u, u'] wx (RetV (.val (.int .i64 q)) wx))) : Calls Try.prog 44 #[u, u'] w (RetV (.rat n) w) := by
  obtain ⟨s1, n1', A1, m1, c1, s2, n2', A2, m2, c2, rfl, r1, r2⟩ := h
  obtain ⟨s3, n3', A3, m3, c3, s4, n4', A4, m4, c4, rfl, r3, r4⟩ := h'
  have R1 := Lib.hid r1
  have R2 := Lib.hid r2
  have R3 := Lib.hid r3
  have R4 := Lib.hid r4
  clear r1 r2 r3 r4
  go_enter Try.func44, Try.ntmps44
  go_upto_region 1 with fail
  generalize hX : ((w.alloc _).alloc _).alloc _ = X
  have HX : Hid (F2 w (.int .i64 s1) (.bool n1') (.slice A1 m1 c1) (.int .i64 s2) (.bool n2') (.slice A2 m2 c2) (.int .i64 s3) (.bool n3') (.slice A3 m3 c3) (.int .i64 s4) (.bool n4') (.slice A4 m4 c4) X) := by
    subst hX
    exact F2.new w _ _ _ _ _ _ _ _ _ _ _ _ _ _ _ _ _ _
  clear hX
  obtain ⟨k0, k1, k2, k3, k4, k5, -⟩ := HX.out.ba
  have HVX : Hid (RFV X (.agg #[.int .i64 s1, .bool n1', .slice A1 m1 c1, .int .i64 s2, .bool n2', .slice A2 m2 c2]) x) := ⟨s1, n1', A1, m1, c1, s2, n2', A2, m2, c2, rfl, R1.out.keep HX.out.below, R2.out.keep HX.out.below⟩
  go_wp2_with fail
  (with_reducible refine (HD.out X _ HVX.out).mono ?_)
  rintro e w1 ⟨u, rfl, hu, hB1⟩
  obtain ⟨s5, n5, A5, m5, c5, rfl, hR5⟩ := hu
  have HR5 := Lib.hid hR5
  have HX1 := Lib.hid (HX.out.keep _ _ hB1)
  clear k0 k1 k2 k3 k4 k5 hR5 hB1 HX HD HVX
  go_wp2_with fail
  (with_reducible refine (HO.out _).mono ?_)
  rintro e w2 ⟨u, rfl, hu, hB2⟩
  obtain ⟨s6, n6, A6, m6, c6, rfl, hR6⟩ := hu
  have HR6 := Lib.hid hR6
  have HR5' := Lib.hid (HR5.out.keep hB2)
  have HX2 := Lib.hid (HX1.out.keep _ _ hB2)
  clear hR6 hB2 HX1 HR5 HO
  go_upto_region 2 with fail
  generalize hY : w2.alloc _ = Y
  have HY : Hid (FS w w2.heap.size x y n Y) := by
    have hB : Below w2.heap.size w2 Y := by subst hY; exact below_alloc _ _
    have hF := HX2.out.keep _ _ hB
    refine ⟨HX2.out.wc.2.2.lt, hF.below, ⟨s1, n1', A1, m1, c1, s2, n2', A2, m2, c2, hF.ba, R1.out.keep hF.below, R2.out.keep hF.below⟩, ⟨s3, n3', A3, m3, c3, s4, n4', A4, m4, c4, hF.bb, R3.out.keep hF.below, R4.out.keep hF.below⟩, hF.wc, ⟨s5, n5, A5, m5, c5, s6, n6, A6, m6, c6, by subst hY; simp [B6, go_sem], ?_, ?_⟩⟩
    · rw [hn.out.1]; exact HR5'.out.keep hB
    · rw [hn.out.2]; exact HR6.out.keep hB
  clear hY HX2 HR5' HR6 R1 R2 R3 R4
  generalize w2.heap.size = gn at HY ⊢
  clear w1 w2
  obtain ⟨s1, n1', A1, m1, c1, s2, n2', A2, m2, c2, ⟨k0, k1, k2, k3, k4, k5, -⟩, r1, r2⟩ := HY.out.ba
  obtain ⟨s5, n5, A5, m5, c5, s6, n6, A6, m6, c6, ⟨j0, j1, j2, j3, j4, j5, -⟩, r5, r6⟩ := HY.out.bn
  have HVx : Hid (RFV Y (.agg #[.int .i64 s1, .bool n1', .slice A1 m1 c1, .int .i64 s2, .bool n2', .slice A2 m2 c2]) x) := ⟨s1, n1', A1, m1, c1, s2, n2', A2, m2, c2, rfl, r1, r2⟩
  have HVn : Hid (RFV Y (.agg #[.int .i64 s5, .bool n5, .slice A5 m5 c5, .int .i64 s6, .bool n6, .slice A6 m6 c6]) n) := ⟨s5, n5, A5, m5, c5, s6, n6, A6, m6, c6, rfl, r5, r6⟩
  clear r1 r2 r5 r6
  go_wp2_with fail
  (with_reducible refine (HCn.out Y _ _ HVx.out HVn.out).mono ?_)
  rintro e w3 ⟨u, rfl, rfl, hB3⟩
  have HY3 := Lib.hid (HY.out.keep _ _ hB3)
  clear k0 k1 k2 k3 k4 k5 j0 j1 j2 j3 j4 j5 hB3 HY HVx HVn HCn
  obtain ⟨s5, n5, A5, m5, c5, s6, n6, A6, m6, c6, ⟨j0, j1, j2, j3, j4, j5, -⟩, r5, r6⟩ := HY3.out.bn
  have HR5 := Lib.hid r5
  have HR6 := Lib.hid r6
  clear r5 r6
  obtain ⟨⟨o0, o1, o2, o3, o4, o5, p0, p1, p2, p3, p4, p5⟩, ⟨f0, f1, f2, f3, f4, f5⟩, -⟩ := HY3.out.wc
  go_wp2_with fail
  refine bodyPost_ret (v := .agg #[.int .i64 s5, .bool n5, .slice A5 m5 c5, .int .i64 s6, .bool n6, .slice A6 m6 c6]) (by simp [results, Try.results44, go_sem, p0, p1, p2, p3, p4, p5]) rfl ?_
  have H : RetRt n.num (n.den : Int) w (.returned (.agg #[.int .i64 s5, .bool n5, .slice A5 m5 c5, .int .i64 s6, .bool n6, .slice A6 m6 c6])) (set6 w3 (w.heap.size + 1 + 1) (.int .i64 s5) (.bool n5) (.slice A5 m5 c5) (.int .i64 s6) (.bool n6) (.slice A6 m6 c6)) := retRt_box0 HY3.out.below (Nat.le_trans (Nat.le_succ _) (Nat.le_succ _)) HR5.out HR6.out HY3.out.wc.2.2
  obtain ⟨a1, a2, a3, a4, a5, a6, a7, a8, a9, a10, ae, k1, k2, k3⟩ := H
  exact ⟨_, rfl, ⟨a1, a2, a3, a4, a5, a6, a7, a8, a9, a10, by injection ae, k1, k2⟩, k3⟩

set_option maxRecDepth 100000 in
set_option maxHeartbeats 20000000 in
theorem rs_next {u u' : Value} (x y n : Rat) (n0 q : Int) (w : World) (h : RFV w u x) (h' : RFV w u' y) (one n1 : Rat) (q2 : Int) (g0 : (q == 0) = false) (g1 : decide (q2 ≤ 0) = true)
    (HD : Hid (∀ wx u, RFV wx u x → Calls Try.prog 75 #[u] wx (RetV (.int n0) wx))) (HO : Hid (∀ wx, Calls Try.prog 29 #[.int .i64 1] wx (RetV (.int 1) wx))) (hn : Hid (n.num = n0 ∧ (n.den : Int) = 1)) (HCn : Hid (∀ wx u u', RFV wx u x → RFV wx u' n → Calls Try.prog 19 #[u, u'] wx (RetV (.val (.int .i64 q)) wx)))
    (HW : Hid (∀ wx, Calls Try.prog 50 #[.int .i64 1] wx (RetV (.rat one) wx))) (HP1 : Hid (∀ wx u u', RFV wx u n → RFV wx u' one → Calls Try.prog 51 #[u, u'] wx (RetV (.rat n1) wx))) (HC2 : Hid (∀ wx u u', RFV wx u n1 → RFV wx u' y → Calls Try.prog 19 #[u, u'] wx (RetV (.val (.int .i64 q2)) wx))) : Calls Try.prog 44 #[u, u'] w (RetV (.rat n1) w) := by
  obtain ⟨s1, n1', A1, m1, c1, s2, n2', A2, m2, c2, rfl, r1, r2⟩ := h
  obtain ⟨s3, n3', A3, m3, c3, s4, n4', A4, m4, c4, rfl, r3, r4⟩ := h'
  have R1 := Lib.hid r1
  have R2 := Lib.hid r2
  have R3 := Lib.hid r3
  have R4 := Lib.hid r4
  clear r1 r2 r3 r4
  go_enter Try.func44, Try.ntmps44
  go_upto_region 1 with fail
  generalize hX : ((w.alloc _).alloc _).alloc _ = X
  have HX : Hid (F2 w (.int .i64 s1) (.bool n1') (.slice A1 m1 c1) (.int .i64 s2) (.bool n2') (.slice A2 m2 c2) (.int .i64 s3) (.bool n3') (.slice A3 m3 c3) (.int .i64 s4) (.bool n4') (.slice A4 m4 c4) X) := by
    subst hX
    exact F2.new w _ _ _ _ _ _ _ _ _ _ _ _ _ _ _ _ _ _
  clear hX
  obtain ⟨k0, k1, k2, k3, k4, k5, -⟩ := HX.out.ba
  have HVX : Hid (RFV X (.agg #[.int .i64 s1, .bool n1', .slice A1 m1 c1, .int .i64 s2, .bool n2', .slice A2 m2 c2]) x) := ⟨s1, n1', A1, m1, c1, s2, n2', A2, m2, c2, rfl, R1.out.keep HX.out.below, R2.out.keep HX.out.below⟩
  go_wp2_with fail
  (with_reducible refine (HD.out X _ HVX.out).mono ?_)
  rintro e w1 ⟨u, rfl, hu, hB1⟩
  obtain ⟨s5, n5, A5, m5, c5, rfl, hR5⟩ := hu
  have HR5 := Lib.hid hR5
  have HX1 := Lib.hid (HX.out.keep _ _ hB1)
  clear k0 k1 k2 k3 k4 k5 hR5 hB1 HX HD HVX
  go_wp2_with fail
  (with_reducible refine (HO.out _).mono ?_)
  rintro e w2 ⟨u, rfl, hu, hB2⟩
  obtain ⟨s6, n6, A6, m6, c6, rfl, hR6⟩ := hu
  have HR6 := Lib.hid hR6
  have HR5' := Lib.hid (HR5.out.keep hB2)
  have HX2 := Lib.hid (HX1.out.keep _ _ hB2)
  clear hR6 hB2 HX1 HR5 HO
  go_upto_region 2 with fail
  generalize hY : w2.alloc _ = Y
  have HY : Hid (FS w w2.heap.size x y n Y) := by
    have hB : Below w2.heap.size w2 Y := by subst hY; exact below_alloc _ _
    have hF := HX2.out.keep _ _ hB
    refine ⟨HX2.out.wc.2.2.lt, hF.below, ⟨s1, n1', A1, m1, c1, s2, n2', A2, m2, c2, hF.ba, R1.out.keep hF.below, R2.out.keep hF.below⟩, ⟨s3, n3', A3, m3, c3, s4, n4', A4, m4, c4, hF.bb, R3.out.keep hF.below, R4.out.keep hF.below⟩, hF.wc, ⟨s5, n5, A5, m5, c5, s6, n6, A6, m6, c6, by subst hY; simp [B6, go_sem], ?_, ?_⟩⟩
    · rw [hn.out.1]; exact HR5'.out.keep hB
    · rw [hn.out.2]; exact HR6.out.keep hB
  clear hY HX2 HR5' HR6 R1 R2 R3 R4
  generalize w2.heap.size = gn at HY ⊢
  clear w1 w2
  obtain ⟨s1, n1', A1, m1, c1, s2, n2', A2, m2, c2, ⟨k0, k1, k2, k3, k4, k5, -⟩, r1, r2⟩ := HY.out.ba
  obtain ⟨s5, n5, A5, m5, c5, s6, n6, A6, m6, c6, ⟨j0, j1, j2, j3, j4, j5, -⟩, r5, r6⟩ := HY.out.bn
  have HVx : Hid (RFV Y (.agg #[.int .i64 s1, .bool n1', .slice A1 m1 c1, .int .i64 s2, .bool n2', .slice A2 m2 c2]) x) := ⟨s1, n1', A1, m1, c1, s2, n2', A2, m2, c2, rfl, r1, r2⟩
  have HVn : Hid (RFV Y (.agg #[.int .i64 s5, .bool n5, .slice A5 m5 c5, .int .i64 s6, .bool n6, .slice A6 m6 c6]) n) := ⟨s5, n5, A5, m5, c5, s6, n6, A6, m6, c6, rfl, r5, r6⟩
  clear r1 r2 r5 r6
  go_wp2_with fail
  (with_reducible refine (HCn.out Y _ _ HVx.out HVn.out).mono ?_)
  rintro e w3 ⟨u, rfl, rfl, hB3⟩
  have HY3 := Lib.hid (HY.out.keep _ _ hB3)
  clear k0 k1 k2 k3 k4 k5 j0 j1 j2 j3 j4 j5 hB3 HY HVx HVn HCn
  go_upto_region 4 with fail
  refine wp_region_flow 7 [18, 19, 20, 21, 22, 23, 17] (fun i => if i = 6 then 17 else 18 + i) (FS w gn x y n) (Sbl [.rat n, .rat one, .rat n1, .rat y, .val (.int .i64 q2), .val (.bool true), .val (.bool true)]) (by kernel_rfl) (by kernel_rfl) (by kernel_rfl) (by kernel_rfl) (fun i j hi hj h => by have h : (if i = 6 then 17 else 18 + i) = (if j = 6 then 17 else 18 + j) := h; split at h <;> split at h <;> omega) (by decide) FS.keep Sbl.keep ?_ ?_ ?_
  · exact HY3.out.keep _ _ (Below.drew (Below.refl _ _))
  · intro i v wx o T' K ho hF hdep hin hout hK
    have hi : i < 7 := (Array.getElem?_eq_some_iff.1 ho).1
    have q18 := hin 18 (by decide)
    have q19 := hin 19 (by decide)
    have q20 := hin 20 (by decide)
    have q21 := hin 21 (by decide)
    have q22 := hin 22 (by decide)
    have q23 := hin 23 (by decide)
    have q17 := hin 17 (by decide)
    have sl2 : T'[2]? = some (.pointer (some ⟨w.heap.size, 0, none⟩)) := (hout 2 (by decide)).trans rfl
    have sl3 : T'[3]? = some (.pointer (some ⟨w.heap.size + 1, 0, none⟩)) := (hout 3 (by decide)).trans rfl
    have sl4 : T'[4]? = some (.pointer (some ⟨w.heap.size + 1 + 1, 0, none⟩)) := (hout 4 (by decide)).trans rfl
    have sl5 : T'[5]? = some (.pointer (some ⟨gn, 0, none⟩)) := (hout 5 (by decide)).trans rfl
    clear hin hout
    have HF := Lib.hid hF
    have HD := Lib.hid hdep
    clear hF hdep
    rcases (by omega : i = 0 ∨ i = 1 ∨ i = 2 ∨ i = 3 ∨ i = 4 ∨ i = 5 ∨ i = 6) with rfl | rfl | rfl | rfl | rfl | rfl | rfl
    · obtain rfl := Option.some.inj ho
      obtain ⟨t1, t2, t3, t4, t5, t6, t7, t8, t9, t10, ⟨k0, k1, k2, k3, k4, k5, k6⟩, i1, i2⟩ := HF.out.bn
      have hP := (⟨t1, t2, t3, t4, t5, t6, t7, t8, t9, t10, rfl, i1, i2⟩ : RFV wx (.agg #[.int .i64 t1, .bool t2, .slice t3 t4 t5, .int .i64 t6, .bool t7, .slice t8 t9 t10]) n)
      clear q18 q19 q20 q21 q22 q23 q17 sl2 sl3 sl4 ho hi
      go_simp
      exact hK _ _ (Below.refl _ _) hP
    · obtain rfl := Option.some.inj ho
      clear q18 q19 q20 q21 q22 q23 q17 sl2 sl3 sl4 sl5 ho hi
      go_simp
      (with_reducible refine (HW.out _).mono ?_)
      rintro e w2 ⟨u, rfl, hu, hB⟩
      exact hK _ _ hB hu
    · obtain rfl := Option.some.inj ho
      have h0 : RFV wx (v 18) n := HD.out ⟨0, .data⟩ (by simp) rfl
      have h1 : RFV wx (v 19) one := HD.out ⟨1, .data⟩ (by simp) rfl
      clear q20 q21 q22 q23 q17 sl2 sl3 sl4 sl5 ho hi
      go_simp
      (with_reducible refine (HP1.out _ _ _ h0 h1).mono ?_)
      rintro e w2 ⟨u, rfl, hu, hB⟩
      exact hK _ _ hB hu
    · obtain rfl := Option.some.inj ho
      obtain ⟨t1, t2, t3, t4, t5, t6, t7, t8, t9, t10, ⟨k0, k1, k2, k3, k4, k5, k6⟩, i1, i2⟩ := HF.out.bb
      have hP := (⟨t1, t2, t3, t4, t5, t6, t7, t8, t9, t10, rfl, i1, i2⟩ : RFV wx (.agg #[.int .i64 t1, .bool t2, .slice t3 t4 t5, .int .i64 t6, .bool t7, .slice t8 t9 t10]) y)
      clear q18 q19 q20 q21 q22 q23 q17 sl2 sl4 sl5 ho hi
      go_simp
      exact hK _ _ (Below.refl _ _) hP
    · obtain rfl := Option.some.inj ho
      have h0 : RFV wx (v 20) n1 := HD.out ⟨2, .data⟩ (by simp) rfl
      have h1 : RFV wx (v 21) y := HD.out ⟨3, .data⟩ (by simp) rfl
      clear q18 q19 q22 q23 q17 sl2 sl3 sl4 sl5 ho hi
      go_simp
      (with_reducible refine (HC2.out _ _ _ h0 h1).mono ?_)
      rintro e w2 ⟨u, rfl, hu, hB⟩
      exact hK _ _ hB hu
    · obtain rfl := Option.some.inj ho
      have e0 : v 22 = (.int .i64 q2) := HD.out ⟨4, .data⟩ (by simp) rfl
      rw [e0] at q22
      clear q18 q19 q20 q21 q23 q17 sl2 sl3 sl4 sl5 ho hi
      go_simp
      exact hK _ _ (Below.refl _ _) rfl
    · obtain rfl := Option.some.inj ho
      have e0 : v 23 = (.bool true) := HD.out ⟨5, .data⟩ (by simp) rfl
      rw [e0] at q23
      clear q18 q19 q20 q21 q22 q17 sl2 sl3 sl4 sl5 ho hi
      go_simp
      exact hK _ _ (Below.refl _ _) rfl
  · intro v wx hF hall
    have h17 : v 17 = .bool true := hall 6 (by decide)
    have HF := Lib.hid hF
    clear hF hall
    simp only [over, List.setIfInBounds_toArray, List.set_cons_zero, List.set_cons_succ]
    rw [h17]
    generalize v 18 = v18
    generalize v 19 = v19
    generalize v 20 = v20
    generalize v 21 = v21
    generalize v 22 = v22
    generalize v 23 = v23
    clear HC2
    go_upto_region 5 with fail
    refine wp_region_flow_store 3 [24, 25, 26] (fun i => 24 + i) (FS w gn x y n) (EndR w (w.heap.size + 1 + 1) n1) (Sbl [.rat n, .rat one, .rat n1]) (by kernel_rfl) (by kernel_rfl) (by kernel_rfl) (by kernel_rfl) (by kernel_rfl) (fun i j _ _ h => Nat.add_left_cancel (show 24 + i = 24 + j from h)) (by decide) FS.keep Sbl.keep ?_ ?_ ?_ ?_
    · exact HF.out.keep _ _ (Below.drew (Below.refl _ _))
    · intro i v wx o T' K hi ho hF hdep hin hout hK
      have q24 := hin 24 (by decide)
      have q25 := hin 25 (by decide)
      have q26 := hin 26 (by decide)
      have sl2 : T'[2]? = some (.pointer (some ⟨w.heap.size, 0, none⟩)) := (hout 2 (by decide)).trans rfl
      have sl3 : T'[3]? = some (.pointer (some ⟨w.heap.size + 1, 0, none⟩)) := (hout 3 (by decide)).trans rfl
      have sl4 : T'[4]? = some (.pointer (some ⟨w.heap.size + 1 + 1, 0, none⟩)) := (hout 4 (by decide)).trans rfl
      have sl5 : T'[5]? = some (.pointer (some ⟨gn, 0, none⟩)) := (hout 5 (by decide)).trans rfl
      clear hin hout
      have HF := Lib.hid hF
      have HD := Lib.hid hdep
      clear hF hdep
      rcases (by omega : i = 0 ∨ i = 1 ∨ i = 2) with rfl | rfl | rfl
      · obtain rfl := Option.some.inj ho
        obtain ⟨t1, t2, t3, t4, t5, t6, t7, t8, t9, t10, ⟨k0, k1, k2, k3, k4, k5, k6⟩, i1, i2⟩ := HF.out.bn
        have hP := (⟨t1, t2, t3, t4, t5, t6, t7, t8, t9, t10, rfl, i1, i2⟩ : RFV wx (.agg #[.int .i64 t1, .bool t2, .slice t3 t4 t5, .int .i64 t6, .bool t7, .slice t8 t9 t10]) n)
        clear q24 q25 q26 sl2 sl3 sl4 ho hi
        go_simp
        exact hK _ _ (Below.refl _ _) hP
      · obtain rfl := Option.some.inj ho
        clear q24 q25 q26 sl2 sl3 sl4 sl5 ho hi
        go_simp
        (with_reducible refine (HW.out _).mono ?_)
        rintro e w2 ⟨u, rfl, hu, hB⟩
        exact hK _ _ hB hu
      · obtain rfl := Option.some.inj ho
        have h0 : RFV wx (v 24) n := HD.out ⟨0, .data⟩ (by simp) rfl
        have h1 : RFV wx (v 25) one := HD.out ⟨1, .data⟩ (by simp) rfl
        clear q26 sl2 sl3 sl4 sl5 ho hi
        go_simp
        (with_reducible refine (HP1.out _ _ _ h0 h1).mono ?_)
        rintro e w2 ⟨u, rfl, hu, hB⟩
        exact hK _ _ hB hu
    · intro v wx o T' K ho hF hall hin hout hK
      obtain rfl := Option.some.inj ho
      have sl4 : T'[4]? = some (.pointer (some ⟨w.heap.size + 1 + 1, 0, none⟩)) := (hout 4 (by decide)).trans rfl
      have q26 := hin 26 (by decide)
      have h0 : RFV wx (v 26) n1 := hall 2 (by decide)
      clear hin hout hall ho
      obtain ⟨s5, n5, A5, m5, c5, s6, n6, A6, m6, c6, e5, h5, h6⟩ := h0
      rw [e5] at q26
      have HR := Lib.hid (endR_store hF.below (show w.heap.size ≤ w.heap.size + 1 + 1 by omega) hF.wc h5 h6)
      obtain ⟨⟨o0, o1, o2, o3, o4, o5, p0, p1, p2, p3, p4, p5⟩, ⟨f0, f1, f2, f3, f4, f5⟩, -⟩ := hF.wc
      clear e5 h5 h6 hF
      go_simp
      exact hK _ HR.out
    · intro v wx hE
      obtain ⟨s5, n5, A5, m5, c5, s6, n6, A6, m6, c6, ⟨k0, k1, k2, k3, k4, k5, -⟩, h5, h6, hB⟩ := hE
      have H5 := Lib.hid h5
      have H6 := Lib.hid h6
      have HB := Lib.hid hB
      clear h5 h6 hB
      simp only [over, List.setIfInBounds_toArray, List.set_cons_zero, List.set_cons_succ]
      generalize v 24 = v24
      generalize v 25 = v25
      generalize v 26 = v26
      go_wp2_with fail
      exact bodyPost_ret (v := .agg #[.int .i64 s5, .bool n5, .slice A5 m5 c5, .int .i64 s6, .bool n6, .slice A6 m6 c6]) (by simp [results, Try.results44, go_sem, k0, k1, k2, k3, k4, k5]) rfl ⟨_, rfl, ⟨s5, n5, A5, m5, c5, s6, n6, A6, m6, c6, rfl, H5.out, H6.out⟩, HB.out⟩

set_option maxRecDepth 100000 in
set_option maxHeartbeats 20000000 in
theorem rs_rec {u u' : Value} (x y n : Rat) (n0 q : Int) (w : World) (h : RFV w u x) (h' : RFV w u' y) (one n1 yn yi xn xi r ri z : Rat) (q2 : Int) (g0 : (q == 0) = false) (g1 : decide (q2 ≤ 0) = false)
    (HD : Hid (∀ wx u, RFV wx u x → Calls Try.prog 75 #[u] wx (RetV (.int n0) wx))) (HO : Hid (∀ wx, Calls Try.prog 29 #[.int .i64 1] wx (RetV (.int 1) wx))) (hn : Hid (n.num = n0 ∧ (n.den : Int) = 1)) (HCn : Hid (∀ wx u u', RFV wx u x → RFV wx u' n → Calls Try.prog 19 #[u, u'] wx (RetV (.val (.int .i64 q)) wx)))
    (HW : Hid (∀ wx, Calls Try.prog 50 #[.int .i64 1] wx (RetV (.rat one) wx))) (HP1 : Hid (∀ wx u u', RFV wx u n → RFV wx u' one → Calls Try.prog 51 #[u, u'] wx (RetV (.rat n1) wx))) (HC2 : Hid (∀ wx u u', RFV wx u n1 → RFV wx u' y → Calls Try.prog 19 #[u, u'] wx (RetV (.val (.int .i64 q2)) wx)))
    (HLy : Hid (∀ wx u u', RFV wx u y → RFV wx u' n → Calls Try.prog 48 #[u, u'] wx (RetV (.rat yn) wx))) (HOy : Hid (∀ wx u u', RFV wx u one → RFV wx u' yn → Calls Try.prog 76 #[u, u'] wx (RetV (.rat yi) wx))) (HLx : Hid (∀ wx u u', RFV wx u x → RFV wx u' n → Calls Try.prog 48 #[u, u'] wx (RetV (.rat xn) wx))) (HOx : Hid (∀ wx u u', RFV wx u one → RFV wx u' xn → Calls Try.prog 76 #[u, u'] wx (RetV (.rat xi) wx))) (HR : Hid (∀ wx u u', RFV wx u yi → RFV wx u' xi → Calls Try.prog 44 #[u, u'] wx (RetV (.rat r) wx))) (HOr : Hid (∀ wx u u', RFV wx u one → RFV wx u' r → Calls Try.prog 76 #[u, u'] wx (RetV (.rat ri) wx))) (HP2 : Hid (∀ wx u u', RFV wx u n → RFV wx u' ri → Calls Try.prog 51 #[u, u'] wx (RetV (.rat z) wx))) : Calls Try.prog 44 #[u, u'] w (RetV (.rat z) w) := by
  obtain ⟨s1, n1', A1, m1, c1, s2, n2', A2, m2, c2, rfl, r1, r2⟩ := h
  obtain ⟨s3, n3', A3, m3, c3, s4, n4', A4, m4, c4, rfl, r3, r4⟩ := h'
  have R1 := Lib.hid r1
  have R2 := Lib.hid r2
  have R3 := Lib.hid r3
  have R4 := Lib.hid r4
  clear r1 r2 r3 r4
  go_enter Try.func44, Try.ntmps44
  go_upto_region 1 with fail
  generalize hX : ((w.alloc _).alloc _).alloc _ = X
  have HX : Hid (F2 w (.int .i64 s1) (.bool n1') (.slice A1 m1 c1) (.int .i64 s2) (.bool n2') (.slice A2 m2 c2) (.int .i64 s3) (.bool n3') (.slice A3 m3 c3) (.int .i64 s4) (.bool n4') (.slice A4 m4 c4) X) := by
    subst hX
    exact F2.new w _ _ _ _ _ _ _ _ _ _ _ _ _ _ _ _ _ _
  clear hX
  obtain ⟨k0, k1, k2, k3, k4, k5, -⟩ := HX.out.ba
  have HVX : Hid (RFV X (.agg #[.int .i64 s1, .bool n1', .slice A1 m1 c1, .int .i64 s2, .bool n2', .slice A2 m2 c2]) x) := ⟨s1, n1', A1, m1, c1, s2, n2', A2, m2, c2, rfl, R1.out.keep HX.out.below, R2.out.keep HX.out.below⟩
  go_wp2_with fail
  (with_reducible refine (HD.out X _ HVX.out).mono ?_)
  rintro e w1 ⟨u, rfl, hu, hB1⟩
  obtain ⟨s5, n5, A5, m5, c5, rfl, hR5⟩ := hu
  have HR5 := Lib.hid hR5
  have HX1 := Lib.hid (HX.out.keep _ _ hB1)
  clear k0 k1 k2 k3 k4 k5 hR5 hB1 HX HD HVX
  go_wp2_with fail
  (with_reducible refine (HO.out _).mono ?_)
  rintro e w2 ⟨u, rfl, hu, hB2⟩
  obtain ⟨s6, n6, A6, m6, c6, rfl, hR6⟩ := hu
  have HR6 := Lib.hid hR6
  have HR5' := Lib.hid (HR5.out.keep hB2)
  have HX2 := Lib.hid (HX1.out.keep _ _ hB2)
  clear hR6 hB2 HX1 HR5 HO
  go_upto_region 2 with fail
  generalize hY : w2.alloc _ = Y
  have HY : Hid (FS w w2.heap.size x y n Y) := by
    have hB : Below w2.heap.size w2 Y := by subst hY; exact below_alloc _ _
    have hF := HX2.out.keep _ _ hB
    refine ⟨HX2.out.wc.2.2.lt, hF.below, ⟨s1, n1', A1, m1, c1, s2, n2', A2, m2, c2, hF.ba, R1.out.keep hF.below, R2.out.keep hF.below⟩, ⟨s3, n3', A3, m3, c3, s4, n4', A4, m4, c4, hF.bb, R3.out.keep hF.below, R4.out.keep hF.below⟩, hF.wc, ⟨s5, n5, A5, m5, c5, s6, n6, A6, m6, c6, by subst hY; simp [B6, go_sem], ?_, ?_⟩⟩
    · rw [hn.out.1]; exact HR5'.out.keep hB
    · rw [hn.out.2]; exact HR6.out.keep hB
  clear hY HX2 HR5' HR6 R1 R2 R3 R4
  generalize w2.heap.size = gn at HY ⊢
  clear w1 w2
  obtain ⟨s1, n1', A1, m1, c1, s2, n2', A2, m2, c2, ⟨k0, k1, k2, k3, k4, k5, -⟩, r1, r2⟩ := HY.out.ba
  obtain ⟨s5, n5, A5, m5, c5, s6, n6, A6, m6, c6, ⟨j0, j1, j2, j3, j4, j5, -⟩, r5, r6⟩ := HY.out.bn
  have HVx : Hid (RFV Y (.agg #[.int .i64 s1, .bool n1', .slice A1 m1 c1, .int .i64 s2, .bool n2', .slice A2 m2 c2]) x) := ⟨s1, n1', A1, m1, c1, s2, n2', A2, m2, c2, rfl, r1, r2⟩
  have HVn : Hid (RFV Y (.agg #[.int .i64 s5, .bool n5, .slice A5 m5 c5, .int .i64 s6, .bool n6, .slice A6 m6 c6]) n) := ⟨s5, n5, A5, m5, c5, s6, n6, A6, m6, c6, rfl, r5, r6⟩
  clear r1 r2 r5 r6
  go_wp2_with fail
  (with_reducible refine (HCn.out Y _ _ HVx.out HVn.out).mono ?_)
  rintro e w3 ⟨u, rfl, rfl, hB3⟩
  have HY3 := Lib.hid (HY.out.keep _ _ hB3)
  clear k0 k1 k2 k3 k4 k5 j0 j1 j2 j3 j4 j5 hB3 HY HVx HVn HCn
  go_upto_region 4 with fail
  refine wp_region_flow 7 [18, 19, 20, 21, 22, 23, 17] (fun i => if i = 6 then 17 else 18 + i) (FS w gn x y n) (Sbl [.rat n, .rat one, .rat n1, .rat y, .val (.int .i64 q2), .val (.bool false), .val (.bool false)]) (by kernel_rfl) (by kernel_rfl) (by kernel_rfl) (by kernel_rfl) (fun i j hi hj h => by have h : (if i = 6 then 17 else 18 + i) = (if j = 6 then 17 else 18 + j) := h; split at h <;> split at h <;> omega) (by decide) FS.keep Sbl.keep ?_ ?_ ?_
  · exact HY3.out.keep _ _ (Below.drew (Below.refl _ _))
  · intro i v wx o T' K ho hF hdep hin hout hK
    have hi : i < 7 := (Array.getElem?_eq_some_iff.1 ho).1
    have q18 := hin 18 (by decide)
    have q19 := hin 19 (by decide)
    have q20 := hin 20 (by decide)
    have q21 := hin 21 (by decide)
    have q22 := hin 22 (by decide)
    have q23 := hin 23 (by decide)
    have q17 := hin 17 (by decide)
    have sl2 : T'[2]? = some (.pointer (some ⟨w.heap.size, 0, none⟩)) := (hout 2 (by decide)).trans rfl
    have sl3 : T'[3]? = some (.pointer (some ⟨w.heap.size + 1, 0, none⟩)) := (hout 3 (by decide)).trans rfl
    have sl4 : T'[4]? = some (.pointer (some ⟨w.heap.size + 1 + 1, 0, none⟩)) := (hout 4 (by decide)).trans rfl
    have sl5 : T'[5]? = some (.pointer (some ⟨gn, 0, none⟩)) := (hout 5 (by decide)).trans rfl
    clear hin hout
    have HF := Lib.hid hF
    have HD := Lib.hid hdep
    clear hF hdep
    rcases (by omega : i = 0 ∨ i = 1 ∨ i = 2 ∨ i = 3 ∨ i = 4 ∨ i = 5 ∨ i = 6) with rfl | rfl | rfl | rfl | rfl | rfl | rfl
    · obtain rfl := Option.some.inj ho
      obtain ⟨t1, t2, t3, t4, t5, t6, t7, t8, t9, t10, ⟨k0, k1, k2, k3, k4, k5, k6⟩, i1, i2⟩ := HF.out.bn
      have hP := (⟨t1, t2, t3, t4, t5, t6, t7, t8, t9, t10, rfl, i1, i2⟩ : RFV wx (.agg #[.int .i64 t1, .bool t2, .slice t3 t4 t5, .int .i64 t6, .bool t7, .slice t8 t9 t10]) n)
      clear q18 q19 q20 q21 q22 q23 q17 sl2 sl3 sl4 ho hi
      go_simp
      exact hK _ _ (Below.refl _ _) hP
    · obtain rfl := Option.some.inj ho
      clear q18 q19 q20 q21 q22 q23 q17 sl2 sl3 sl4 sl5 ho hi
      go_simp
      (with_reducible refine (HW.out _).mono ?_)
      rintro e w2 ⟨u, rfl, hu, hB⟩
      exact hK _ _ hB hu
    · obtain rfl := Option.some.inj ho
      have h0 : RFV wx (v 18) n := HD.out ⟨0, .data⟩ (by simp) rfl
      have h1 : RFV wx (v 19) one := HD.out ⟨1, .data⟩ (by simp) rfl
      clear q20 q21 q22 q23 q17 sl2 sl3 sl4 sl5 ho hi
      go_simp
      (with_reducible refine (HP1.out _ _ _ h0 h1).mono ?_)
      rintro e w2 ⟨u, rfl, hu, hB⟩
      exact hK _ _ hB hu
    · obtain rfl := Option.some.inj ho
      obtain ⟨t1, t2, t3, t4, t5, t6, t7, t8, t9, t10, ⟨k0, k1, k2, k3, k4, k5, k6⟩, i1, i2⟩ := HF.out.bb
      have hP := (⟨t1, t2, t3, t4, t5, t6, t7, t8, t9, t10, rfl, i1, i2⟩ : RFV wx (.agg #[.int .i64 t1, .bool t2, .slice t3 t4 t5, .int .i64 t6, .bool t7, .slice t8 t9 t10]) y)
      clear q18 q19 q20 q21 q22 q23 q17 sl2 sl4 sl5 ho hi
      go_simp
      exact hK _ _ (Below.refl _ _) hP
    · obtain rfl := Option.some.inj ho
      have h0 : RFV wx (v 20) n1 := HD.out ⟨2, .data⟩ (by simp) rfl
      have h1 : RFV wx (v 21) y := HD.out ⟨3, .data⟩ (by simp) rfl
      clear q18 q19 q22 q23 q17 sl2 sl3 sl4 sl5 ho hi
      go_simp
      (with_reducible refine (HC2.out _ _ _ h0 h1).mono ?_)
      rintro e w2 ⟨u, rfl, hu, hB⟩
      exact hK _ _ hB hu
    · obtain rfl := Option.some.inj ho
      have e0 : v 22 = (.int .i64 q2) := HD.out ⟨4, .data⟩ (by simp) rfl
      rw [e0] at q22
      clear q18 q19 q20 q21 q23 q17 sl2 sl3 sl4 sl5 ho hi
      go_simp
      exact hK _ _ (Below.refl _ _) rfl
    · obtain rfl := Option.some.inj ho
      have e0 : v 23 = (.bool false) := HD.out ⟨5, .data⟩ (by simp) rfl
      rw [e0] at q23
      clear q18 q19 q20 q21 q22 q17 sl2 sl3 sl4 sl5 ho hi
      go_simp
      exact hK _ _ (Below.refl _ _) rfl
  · intro v wx hF hall
    have h17 : v 17 = .bool false := hall 6 (by decide)
    have HF := Lib.hid hF
    clear hF hall
    simp only [over, List.setIfInBounds_toArray, List.set_cons_zero, List.set_cons_succ]
    rw [h17]
    generalize v 18 = v18
    generalize v 19 = v19
    generalize v 20 = v20
    generalize v 21 = v21
    generalize v 22 = v22
    generalize v 23 = v23
    clear HC2 HP1
    go_upto_region 6 with fail
    refine wp_region_flow_storev 12 [27, 28, 29, 30, 31, 32, 33, 34, 35, 36, 37, 6] (fun i => if i = 11 then 6 else 27 + i) (FS w gn x y n) (fun v wx => ∃ gr, v 6 = .pointer (some ⟨gr, 0, none⟩) ∧ FT w gn gr x y n r wx) (Sbl [.rat one, .rat y, .rat n, .rat yn, .rat yi, .rat one, .rat x, .rat n, .rat xn, .rat xi, .rat r, .box gn]) (by kernel_rfl) (by kernel_rfl) (by kernel_rfl) (by kernel_rfl) (by kernel_rfl) (fun i j hi hj h => by have h : (if i = 11 then 6 else 27 + i) = (if j = 11 then 6 else 27 + j) := h; split at h <;> split at h <;> omega) (by decide) FS.keep Sbl.keep ?_ ?_ ?_ ?_
    · exact HF.out.keep _ _ (Below.drew (Below.refl _ _))
    · intro i v wx o T' K hi ho hF hdep hin hout hK
      have q27 := hin 27 (by decide)
      have q28 := hin 28 (by decide)
      have q29 := hin 29 (by decide)
      have q30 := hin 30 (by decide)
      have q31 := hin 31 (by decide)
      have q32 := hin 32 (by decide)
      have q33 := hin 33 (by decide)
      have q34 := hin 34 (by decide)
      have q35 := hin 35 (by decide)
      have q36 := hin 36 (by decide)
      have q37 := hin 37 (by decide)
      have q6 := hin 6 (by decide)
      have sl2 : T'[2]? = some (.pointer (some ⟨w.heap.size, 0, none⟩)) := (hout 2 (by decide)).trans rfl
      have sl3 : T'[3]? = some (.pointer (some ⟨w.heap.size + 1, 0, none⟩)) := (hout 3 (by decide)).trans rfl
      have sl4 : T'[4]? = some (.pointer (some ⟨w.heap.size + 1 + 1, 0, none⟩)) := (hout 4 (by decide)).trans rfl
      have sl5 : T'[5]? = some (.pointer (some ⟨gn, 0, none⟩)) := (hout 5 (by decide)).trans rfl
      clear hin hout
      have HF := Lib.hid hF
      have HD := Lib.hid hdep
      clear hF hdep
      rcases (by omega : i = 0 ∨ i = 1 ∨ i = 2 ∨ i = 3 ∨ i = 4 ∨ i = 5 ∨ i = 6 ∨ i = 7 ∨ i = 8 ∨ i = 9 ∨ i = 10 ∨ i = 11) with rfl | rfl | rfl | rfl | rfl | rfl | rfl | rfl | rfl | rfl | rfl | rfl
      · obtain rfl := Option.some.inj ho
        clear q27 q28 q29 q30 q31 q32 q33 q34 q35 q36 q37 q6 sl2 sl3 sl4 sl5 ho hi
        go_simp
        (with_reducible refine (HW.out _).mono ?_)
        rintro e w2 ⟨u, rfl, hu, hB⟩
        exact hK _ _ hB hu
      · obtain rfl := Option.some.inj ho
        obtain ⟨t1, t2, t3, t4, t5, t6, t7, t8, t9, t10, ⟨k0, k1, k2, k3, k4, k5, k6⟩, i1, i2⟩ := HF.out.bb
        have hP := (⟨t1, t2, t3, t4, t5, t6, t7, t8, t9, t10, rfl, i1, i2⟩ : RFV wx (.agg #[.int .i64 t1, .bool t2, .slice t3 t4 t5, .int .i64 t6, .bool t7, .slice t8 t9 t10]) y)
        clear q27 q28 q29 q30 q31 q32 q33 q34 q35 q36 q37 q6 sl2 sl4 sl5 ho hi
        go_simp
        exact hK _ _ (Below.refl _ _) hP
      · obtain rfl := Option.some.inj ho
        obtain ⟨t1, t2, t3, t4, t5, t6, t7, t8, t9, t10, ⟨k0, k1, k2, k3, k4, k5, k6⟩, i1, i2⟩ := HF.out.bn
        have hP := (⟨t1, t2, t3, t4, t5, t6, t7, t8, t9, t10, rfl, i1, i2⟩ : RFV wx (.agg #[.int .i64 t1, .bool t2, .slice t3 t4 t5, .int .i64 t6, .bool t7, .slice t8 t9 t10]) n)
        clear q27 q28 q29 q30 q31 q32 q33 q34 q35 q36 q37 q6 sl2 sl3 sl4 ho hi
        go_simp
        exact hK _ _ (Below.refl _ _) hP
      · obtain rfl := Option.some.inj ho
        have h0 : RFV wx (v 28) y := HD.out ⟨1, .data⟩ (by simp) rfl
        have h1 : RFV wx (v 29) n := HD.out ⟨2, .data⟩ (by simp) rfl
        clear q27 q30 q31 q32 q33 q34 q35 q36 q37 q6 sl2 sl3 sl4 sl5 ho hi
        go_simp
        (with_reducible refine (HLy.out _ _ _ h0 h1).mono ?_)
        rintro e w2 ⟨u, rfl, hu, hB⟩
        exact hK _ _ hB hu
      · obtain rfl := Option.some.inj ho
        have h0 : RFV wx (v 27) one := HD.out ⟨0, .data⟩ (by simp) rfl
        have h1 : RFV wx (v 30) yn := HD.out ⟨3, .data⟩ (by simp) rfl
        clear q28 q29 q31 q32 q33 q34 q35 q36 q37 q6 sl2 sl3 sl4 sl5 ho hi
        go_simp
        (with_reducible refine (HOy.out _ _ _ h0 h1).mono ?_)
        rintro e w2 ⟨u, rfl, hu, hB⟩
        exact hK _ _ hB hu
      · obtain rfl := Option.some.inj ho
        clear q27 q28 q29 q30 q31 q32 q33 q34 q35 q36 q37 q6 sl2 sl3 sl4 sl5 ho hi
        go_simp
        (with_reducible refine (HW.out _).mono ?_)
        rintro e w2 ⟨u, rfl, hu, hB⟩
        exact hK _ _ hB hu
      · obtain rfl := Option.some.inj ho
        obtain ⟨t1, t2, t3, t4, t5, t6, t7, t8, t9, t10, ⟨k0, k1, k2, k3, k4, k5, k6⟩, i1, i2⟩ := HF.out.ba
        have hP := (⟨t1, t2, t3, t4, t5, t6, t7, t8, t9, t10, rfl, i1, i2⟩ : RFV wx (.agg #[.int .i64 t1, .bool t2, .slice t3 t4 t5, .int .i64 t6, .bool t7, .slice t8 t9 t10]) x)
        clear q27 q28 q29 q30 q31 q32 q33 q34 q35 q36 q37 q6 sl3 sl4 sl5 ho hi
        go_simp
        exact hK _ _ (Below.refl _ _) hP
      · obtain rfl := Option.some.inj ho
        obtain ⟨t1, t2, t3, t4, t5, t6, t7, t8, t9, t10, ⟨k0, k1, k2, k3, k4, k5, k6⟩, i1, i2⟩ := HF.out.bn
        have hP := (⟨t1, t2, t3, t4, t5, t6, t7, t8, t9, t10, rfl, i1, i2⟩ : RFV wx (.agg #[.int .i64 t1, .bool t2, .slice t3 t4 t5, .int .i64 t6, .bool t7, .slice t8 t9 t10]) n)
        clear q27 q28 q29 q30 q31 q32 q33 q34 q35 q36 q37 q6 sl2 sl3 sl4 ho hi
        go_simp
        exact hK _ _ (Below.refl _ _) hP
      · obtain rfl := Option.some.inj ho
        have h0 : RFV wx (v 33) x := HD.out ⟨6, .data⟩ (by simp) rfl
        have h1 : RFV wx (v 34) n := HD.out ⟨7, .data⟩ (by simp) rfl
        clear q27 q28 q29 q30 q31 q32 q35 q36 q37 q6 sl2 sl3 sl4 sl5 ho hi
        go_simp
        (with_reducible refine (HLx.out _ _ _ h0 h1).mono ?_)
        rintro e w2 ⟨u, rfl, hu, hB⟩
        exact hK _ _ hB hu
      · obtain rfl := Option.some.inj ho
        have h0 : RFV wx (v 32) one := HD.out ⟨5, .data⟩ (by simp) rfl
        have h1 : RFV wx (v 35) xn := HD.out ⟨8, .data⟩ (by simp) rfl
        clear q27 q28 q29 q30 q31 q33 q34 q36 q37 q6 sl2 sl3 sl4 sl5 ho hi
        go_simp
        (with_reducible refine (HOx.out _ _ _ h0 h1).mono ?_)
        rintro e w2 ⟨u, rfl, hu, hB⟩
        exact hK _ _ hB hu
      · obtain rfl := Option.some.inj ho
        have h0 : RFV wx (v 31) yi := HD.out ⟨4, .data⟩ (by simp) rfl
        have h1 : RFV wx (v 36) xi := HD.out ⟨9, .data⟩ (by simp) rfl
        clear q27 q28 q29 q30 q32 q33 q34 q35 q37 q6 sl2 sl3 sl4 sl5 ho hi
        go_simp
        (with_reducible refine (HR.out _ _ _ h0 h1).mono ?_)
        rintro e w2 ⟨u, rfl, hu, hB⟩
        exact hK _ _ hB hu
      · obtain rfl := Option.some.inj ho
        clear q27 q28 q29 q30 q31 q32 q33 q34 q35 q36 q37 q6 sl2 sl3 sl4 sl5 ho hi
        go_simp
        exact hK _ _ (below_alloc _ _) ⟨_, rfl, HF.out.bn.lt, W6.new _ _ _ _ _ _ _ rfl⟩
    · intro v wx o T' K ho hF hall hin hout hK
      obtain rfl := Option.some.inj ho
      have q37 := hin 37 (by decide)
      have h0 : RFV wx (v 37) r := hall 10 (by decide)
      have q6 := hin 6 (by decide)
      have h1 : ∃ g, v 6 = .pointer (some ⟨g, 0, none⟩) ∧ gn < g ∧ W6 g wx := hall 11 (by decide)
      clear hin hout hall ho
      obtain ⟨s5, n5, A5, m5, c5, s6, n6, A6, m6, c6, e5, h5, h6⟩ := h0
      obtain ⟨gr, e6, hgr, hW⟩ := h1
      rw [e5] at q37
      rw [e6] at q6
      have ho := hF.ord
      have HRR : Hid (FT w gn gr x y n r (set6 wx gr (.int .i64 s5) (.bool n5) (.slice A5 m5 c5) (.int .i64 s6) (.bool n6) (.slice A6 m6 c6))) := ⟨⟨hF.ord, set6_below hF.below (by omega) _ _ _ _ _ _, hF.ba.set_6 (by omega) hW _ _ _ _ _ _, hF.bb.set_6 (by omega) hW _ _ _ _ _ _, hF.wc.set_6 (by omega) _ _ _ _ _ _, hF.bn.set_6 (by omega) hW _ _ _ _ _ _⟩, BR.put hW h5 h6⟩
      have HE6 := Lib.hid e6
      obtain ⟨⟨o0, o1, o2, o3, o4, o5, p0, p1, p2, p3, p4, p5⟩, ⟨f0, f1, f2, f3, f4, f5⟩, -⟩ := hW
      clear e5 h5 h6 hF hgr ho e6
      go_simp
      exact hK _ ⟨gr, HE6.out, HRR.out⟩
    · intro v wx hE
      obtain ⟨gr, e6, hT⟩ := hE
      have HT := Lib.hid hT
      clear hT HF
      simp only [over, List.setIfInBounds_toArray, List.set_cons_zero, List.set_cons_succ]
      rw [e6]
      generalize v 27 = v27
      generalize v 28 = v28
      generalize v 29 = v29
      generalize v 30 = v30
      generalize v 31 = v31
      generalize v 32 = v32
      generalize v 33 = v33
      generalize v 34 = v34
      generalize v 35 = v35
      generalize v 36 = v36
      generalize v 37 = v37
      clear HLy HOy HLx HOx HR
      clear e6
      go_upto_region 7 with fail
      refine wp_region_flow_store 5 [38, 39, 40, 41, 42] (fun i => 38 + i) (FT w gn gr x y n r) (EndR w (w.heap.size + 1 + 1) z) (Sbl [.rat n, .rat one, .rat r, .rat ri, .rat z]) (by kernel_rfl) (by kernel_rfl) (by kernel_rfl) (by kernel_rfl) (by kernel_rfl) (fun i j _ _ h => Nat.add_left_cancel (show 38 + i = 38 + j from h)) (by decide) FT.keep Sbl.keep ?_ ?_ ?_ ?_
      · exact HT.out.keep _ _ (Below.drew (Below.refl _ _))
      · intro i v wx o T' K hi ho hF hdep hin hout hK
        have q38 := hin 38 (by decide)
        have q39 := hin 39 (by decide)
        have q40 := hin 40 (by decide)
        have q41 := hin 41 (by decide)
        have q42 := hin 42 (by decide)
        have sl2 : T'[2]? = some (.pointer (some ⟨w.heap.size, 0, none⟩)) := (hout 2 (by decide)).trans rfl
        have sl3 : T'[3]? = some (.pointer (some ⟨w.heap.size + 1, 0, none⟩)) := (hout 3 (by decide)).trans rfl
        have sl4 : T'[4]? = some (.pointer (some ⟨w.heap.size + 1 + 1, 0, none⟩)) := (hout 4 (by decide)).trans rfl
        have sl5 : T'[5]? = some (.pointer (some ⟨gn, 0, none⟩)) := (hout 5 (by decide)).trans rfl
        have sl6 : T'[6]? = some (.pointer (some ⟨gr, 0, none⟩)) := (hout 6 (by decide)).trans rfl
        clear hin hout
        have HF := Lib.hid hF
        have HD := Lib.hid hdep
        clear hF hdep
        rcases (by omega : i = 0 ∨ i = 1 ∨ i = 2 ∨ i = 3 ∨ i = 4) with rfl | rfl | rfl | rfl | rfl
        · obtain rfl := Option.some.inj ho
          obtain ⟨t1, t2, t3, t4, t5, t6, t7, t8, t9, t10, ⟨k0, k1, k2, k3, k4, k5, k6⟩, i1, i2⟩ := HF.out.fs.bn
          have hP := (⟨t1, t2, t3, t4, t5, t6, t7, t8, t9, t10, rfl, i1, i2⟩ : RFV wx (.agg #[.int .i64 t1, .bool t2, .slice t3 t4 t5, .int .i64 t6, .bool t7, .slice t8 t9 t10]) n)
          clear q38 q39 q40 q41 q42 sl2 sl3 sl4 sl6 ho hi
          go_simp
          exact hK _ _ (Below.refl _ _) hP
        · obtain rfl := Option.some.inj ho
          clear q38 q39 q40 q41 q42 sl2 sl3 sl4 sl5 sl6 ho hi
          go_simp
          (with_reducible refine (HW.out _).mono ?_)
          rintro e w2 ⟨u, rfl, hu, hB⟩
          exact hK _ _ hB hu
        · obtain rfl := Option.some.inj ho
          obtain ⟨t1, t2, t3, t4, t5, t6, t7, t8, t9, t10, ⟨k0, k1, k2, k3, k4, k5, k6⟩, i1, i2⟩ := HF.out.br
          have hP := (⟨t1, t2, t3, t4, t5, t6, t7, t8, t9, t10, rfl, i1, i2⟩ : RFV wx (.agg #[.int .i64 t1, .bool t2, .slice t3 t4 t5, .int .i64 t6, .bool t7, .slice t8 t9 t10]) r)
          clear q38 q39 q40 q41 q42 sl2 sl3 sl4 sl5 ho hi
          go_simp
          exact hK _ _ (Below.refl _ _) hP
        · obtain rfl := Option.some.inj ho
          have h0 : RFV wx (v 39) one := HD.out ⟨1, .data⟩ (by simp) rfl
          have h1 : RFV wx (v 40) r := HD.out ⟨2, .data⟩ (by simp) rfl
          clear q38 q41 q42 sl2 sl3 sl4 sl5 sl6 ho hi
          go_simp
          (with_reducible refine (HOr.out _ _ _ h0 h1).mono ?_)
          rintro e w2 ⟨u, rfl, hu, hB⟩
          exact hK _ _ hB hu
        · obtain rfl := Option.some.inj ho
          have h0 : RFV wx (v 38) n := HD.out ⟨0, .data⟩ (by simp) rfl
          have h1 : RFV wx (v 41) ri := HD.out ⟨3, .data⟩ (by simp) rfl
          clear q39 q40 q42 sl2 sl3 sl4 sl5 sl6 ho hi
          go_simp
          (with_reducible refine (HP2.out _ _ _ h0 h1).mono ?_)
          rintro e w2 ⟨u, rfl, hu, hB⟩
          exact hK _ _ hB hu
      · intro v wx o T' K ho hF hall hin hout hK
        obtain rfl := Option.some.inj ho
        have sl4 : T'[4]? = some (.pointer (some ⟨w.heap.size + 1 + 1, 0, none⟩)) := (hout 4 (by decide)).trans rfl
        have q42 := hin 42 (by decide)
        have h0 : RFV wx (v 42) z := hall 4 (by decide)
        clear hin hout hall ho
        obtain ⟨s5, n5, A5, m5, c5, s6, n6, A6, m6, c6, e5, h5, h6⟩ := h0
        rw [e5] at q42
        have HR := Lib.hid (endR_store hF.fs.below (show w.heap.size ≤ w.heap.size + 1 + 1 by omega) hF.fs.wc h5 h6)
        obtain ⟨⟨o0, o1, o2, o3, o4, o5, p0, p1, p2, p3, p4, p5⟩, ⟨f0, f1, f2, f3, f4, f5⟩, -⟩ := hF.fs.wc
        clear e5 h5 h6 hF
        go_simp
        exact hK _ HR.out
      · intro v wx hE
        obtain ⟨s5, n5, A5, m5, c5, s6, n6, A6, m6, c6, ⟨k0, k1, k2, k3, k4, k5, -⟩, h5, h6, hB⟩ := hE
        have H5 := Lib.hid h5
        have H6 := Lib.hid h6
        have HB := Lib.hid hB
        clear h5 h6 hB
        simp only [over, List.setIfInBounds_toArray, List.set_cons_zero, List.set_cons_succ]
        generalize v 38 = v38
        generalize v 39 = v39
        generalize v 40 = v40
        generalize v 41 = v41
        generalize v 42 = v42
        go_wp2_with fail
        exact bodyPost_ret (v := .agg #[.int .i64 s5, .bool n5, .slice A5 m5 c5, .int .i64 s6, .bool n6, .slice A6 m6 c6]) (by simp [results, Try.results44, go_sem, k0, k1, k2, k3, k4, k5]) rfl ⟨_, rfl, ⟨s5, n5, A5, m5, c5, s6, n6, A6, m6, c6, rfl, H5.out, H6.out⟩, HB.out⟩

end Go.Proofs.Ytjoanclnaeephaa

namespace Go.Proofs.Ytjoanclnaeephaa
open Go.RowKit

theorem sgnI_mul (z : Int) (G : Nat) (hG : 0 < G) : sgnI (z * (G : Int)) = sgnI z := by
  unfold sgnI
  rcases Int.lt_trichotomy z 0 with h | h | h
  · have : z * (G : Int) < 0 := Int.mul_neg_of_neg_of_pos h (by omega)
    rw [if_pos h, if_pos this]
  · subst h
    simp
  · have : 0 < z * (G : Int) := Int.mul_pos h (by omega)
    rw [if_neg (by omega), if_neg (by omega), if_neg (by omega), if_neg (by omega)]
theorem sgn_sub (x y : Rat) : sgnI (x - y).num = sgnR x y := by
  unfold sgnR
  obtain ⟨N, hN⟩ : ∃ N, x.num * (y.den : Int) - y.num * (x.den : Int) = N := ⟨_, rfl⟩
  rw [hN]
  have hd : (x.den : Int) * (y.den : Int) ≠ 0 := den_nz2 x y
  have h : qt N ((x.den : Int) * (y.den : Int)) = x - y := by
    have := qt_add x (-y)
    rw [rat_neg_num, rat_neg_den, ← Rat.sub_eq_add_neg] at this
    rw [← this, ← hN, Int.neg_mul, Int.sub_eq_add_neg]
  have e := (qt_parts N ((x.den : Int) * (y.den : Int)) hd).1
  have hneg : ¬ ((x.den : Int) * (y.den : Int) < 0) := by rw [← Int.natCast_mul]; omega
  rw [h, if_neg hneg] at e
  obtain ⟨G, hG⟩ : ∃ G, Nat.gcd N.natAbs ((x.den : Int) * (y.den : Int)).natAbs = G := ⟨_, rfl⟩
  have hG0 : 0 < G := by rw [← hG]; exact Nat.gcd_pos_of_pos_right _ (by omega)
  have hdv : (G : Int) ∣ N := by
    rw [← Int.natAbs_dvd_natAbs, Int.natAbs_natCast, ← hG]
    exact Nat.gcd_dvd_left _ _
  rw [hG] at e
  have em : N = (x - y).num * (G : Int) := by rw [← e]; exact (Int.tdiv_mul_cancel hdv).symm
  rw [em, sgnI_mul _ _ hG0]

theorem parts_add (x y : Rat) {t : Int} {l : Nat} (hl : l ≠ 0) (hc : t.natAbs.gcd l = 1) (h : (x.num * (y.den : Int) + y.num * (x.den : Int)) * (l : Int) = t * ((x.den * y.den : Nat) : Int)) : (x + y).num = t ∧ (x + y).den = l := by
  rw [Rat.add_def']
  exact rat_of_mkRat (Nat.mul_ne_zero x.den_nz y.den_nz) hl hc h
theorem parts_div (x y : Rat) {t : Int} {l : Nat} (hy : 0 < y.num) (hl : l ≠ 0) (hc : t.natAbs.gcd l = 1) (h : x.num * (y.den : Int) * (l : Int) = t * ((x.den * y.num.natAbs : Nat) : Int)) : (x / y).num = t ∧ (x / y).den = l := by
  have hp : 0 < (x.den : Int) * y.num := Int.mul_pos (by have := x.den_nz; omega) hy
  rw [← qt_div]
  unfold qt
  rw [if_neg (by omega)]
  have e : ((x.den : Int) * y.num).natAbs = x.den * y.num.natAbs := by rw [Int.natAbs_mul, Int.natAbs_natCast]
  rw [e]
  exact rat_of_mkRat (Nat.mul_ne_zero x.den_nz (by omega)) hl hc h
theorem gcd_sub_mul {b n m s : Nat} (h : Nat.gcd b m = 1) (e : b = n * m + s) : Nat.gcd s m = 1 := by
  rw [e, Nat.gcd_comm, Nat.mul_comm, Nat.gcd_mul_left_add_right] at h
  rw [Nat.gcd_comm]
  exact h

end Go.Proofs.Ytjoanclnaeephaa

namespace Go.Proofs.Ytjoanclnaeephaa
open Go.RowKit

theorem sgnI_le (z : Int) : decide (sgnI z ≤ 0) = decide (z ≤ 0) := by
  unfold sgnI
  rcases Int.lt_trichotomy z 0 with h | h | h
  · rw [if_pos h, decide_eq_true (show z ≤ 0 by omega)]; rfl
  · rw [if_neg (by omega), if_pos h, decide_eq_true (show z ≤ 0 by omega)]; rfl
  · rw [if_neg (by omega), if_neg (by omega), decide_eq_false (show ¬ (z ≤ 0) by omega)]; rfl
theorem sgnI_eq (z : Int) : (sgnI z == 0) = decide (z = 0) := by
  unfold sgnI
  rcases Int.lt_trichotomy z 0 with h | h | h
  · rw [if_pos h, decide_eq_false (show ¬ (z = 0) by omega)]; rfl
  · rw [if_neg (by omega), if_pos h, decide_eq_true h]; rfl
  · rw [if_neg (by omega), if_neg (by omega), decide_eq_false (show ¬ (z = 0) by omega)]; rfl
theorem rat_of_parts (p : Int) (q : Nat) (hq : q ≠ 0) (hc : p.natAbs.gcd q = 1) : ∃ r : Rat, r.num = p ∧ r.den = q := ⟨⟨p, q, hq, hc⟩, rfl, rfl⟩

theorem rsimp_any : ∀ (k a l b m : Nat) (x y r : Rat) (u u' : Value) (w : World), l + m ≤ k → 0 < a → 0 < l → 0 < m → a * m ≤ b * l → a ≤ 1152921504606846976 → l ≤ 1152921504606846976 → b ≤ 1152921504606846976 → m ≤ 1152921504606846976 →
    x.num = (a : Int) → x.den = l → y.num = (b : Int) → y.den = m → r.num = ((simpN k a l b m).1 : Int) → r.den = (simpN k a l b m).2 → RFV w u x → RFV w u' y → Calls Try.prog 44 #[u, u'] w (RetV (.rat r) w)
  | 0, _, _, _, _, _, _, _, _, _, _, hk, _, hl, _, _, _, _, _, _, _, _, _, _, _, _, _, _ => by omega
  | k + 1, a, l, b, m, x, y, r, u, u', w, hk, ha, hl, hm, hab, Ma, Ml, Mb, Mm, x1, x2, y1, y2, q1, q2, h, h' => by
    have e3 : Bs ^ 3 = 1237940039285380274899124224 := by decide
    have hna : a / l ≤ a := Nat.div_le_self _ _
    obtain ⟨n, n1, n2⟩ := rat_of_parts ((a / l : Nat) : Int) 1 (by decide) (Nat.gcd_one_right _)
    obtain ⟨one, o1, o2⟩ := rat_of_parts 1 1 (by decide) (Nat.gcd_one_right _)
    have bx : x.num.natAbs < Bs ^ 3 ∧ x.den < Bs ^ 3 := by rw [x1, x2, Int.natAbs_natCast]; omega
    have by' : y.num.natAbs < Bs ^ 3 ∧ y.den < Bs ^ 3 := by rw [y1, y2, Int.natAbs_natCast]; omega
    have bn : n.num.natAbs < Bs ^ 3 ∧ n.den < Bs ^ 3 := by
      rw [n1, n2, Int.natAbs_natCast]
      exact ⟨Nat.lt_of_le_of_lt hna (by omega), by omega⟩
    have bo : one.num.natAbs < Bs ^ 3 ∧ one.den < Bs ^ 3 := by rw [o1, o2]; exact ⟨by decide, by decide⟩
    have HD : Hid (∀ wx u, RFV wx u x → Calls Try.prog 75 #[u] wx (RetV (.int ((a / l : Nat) : Int)) wx)) := fun wx u kk => by
      have := rv_down 3 kk (by rw [x1]; omega) (by decide) bx
      rw [x1, x2, ← Int.ofNat_tdiv] at this
      exact this
    have HO : Hid (∀ wx, Calls Try.prog 29 #[.int .i64 1] wx (RetV (.int 1) wx)) := fun wx => iv_of 1 wx (by decide) (by decide)
    have HN : Hid (n.num = ((a / l : Nat) : Int) ∧ (n.den : Int) = 1) := ⟨n1, by rw [n2]; rfl⟩
    have HCn : Hid (∀ wx u u', RFV wx u x → RFV wx u' n → Calls Try.prog 19 #[u, u'] wx (RetV (.val (.int .i64 (sgnI (x - n).num))) wx)) := fun wx u u' k1 k2 => rv_compare 3 k1 k2 (by decide) bx bn
    have g0 : (sgnI (x - n).num == 0) = decide (a = a / l * l) := by
      rw [sgn_sub]
      unfold sgnR
      rw [sgnI_eq, x1, x2, n1, n2, ← Int.natCast_mul]
      refine decide_eq_decide.2 ⟨fun e => by omega, fun e => by omega⟩
    have HW : Hid (∀ wx, Calls Try.prog 50 #[.int .i64 1] wx (RetV (.rat one) wx)) := fun wx => rv_whole 1 one wx ⟨o1, by rw [o2]; rfl⟩ (by decide) (by decide)
    have HP1 : Hid (∀ wx u u', RFV wx u n → RFV wx u' one → Calls Try.prog 51 #[u, u'] wx (RetV (.rat (n + one)) wx)) := fun wx u u' k1 k2 => rv_plus 3 k1 k2 (by decide) bn bo
    have hs : (n + one).num = ((a / l + 1 : Nat) : Int) ∧ (n + one).den = 1 := parts_add n one (by decide) (Nat.gcd_one_right _) (by rw [n1, n2, o1, o2]; simp)
    have bs : (n + one).num.natAbs < Bs ^ 3 ∧ (n + one).den < Bs ^ 3 := by
      rw [hs.1, hs.2, Int.natAbs_natCast]
      exact ⟨Nat.lt_of_le_of_lt (Nat.succ_le_succ hna) (by omega), by omega⟩
    have HC2 : Hid (∀ wx u u', RFV wx u (n + one) → RFV wx u' y → Calls Try.prog 19 #[u, u'] wx (RetV (.val (.int .i64 (sgnI (n + one - y).num))) wx)) := fun wx u u' k1 k2 => rv_compare 3 k1 k2 (by decide) bs by'
    have g1 : decide (sgnI (n + one - y).num ≤ 0) = decide (a / l < b / m) := by
      rw [sgn_sub]
      unfold sgnR
      rw [sgnI_le, hs.1, hs.2, y1, y2, ← Int.natCast_mul]
      have e := Nat.le_div_iff_mul_le (x := a / l + 1) (y := b) hm
      refine decide_eq_decide.2 ⟨fun h => e.2 (by omega), fun h => ?_⟩
      have := e.1 h
      omega
    by_cases h1 : a / l * l = a
    · rw [decide_eq_true h1.symm] at g0
      have e : simpN (k + 1) a l b m = (a / l, 1) := by rw [simpN, if_pos h1]
      rw [e] at q1 q2
      have er : n = r := rat_eq (by rw [n1, q1]) (by rw [n2, q2])
      rw [← er]
      exact rs_one x y n _ _ w h h' g0 HD HO HN HCn
    · rw [decide_eq_false (fun e => h1 e.symm)] at g0
      by_cases h2 : a / l < b / m
      · rw [decide_eq_true h2] at g1
        have e : simpN (k + 1) a l b m = (a / l + 1, 1) := by rw [simpN, if_neg h1, if_pos h2]
        rw [e] at q1 q2
        have er : n + one = r := rat_eq (by rw [hs.1, q1]) (by rw [hs.2, q2])
        rw [← er]
        exact rs_next x y n _ _ w h h' one (n + one) _ g0 g1 HD HO HN HCn HW HP1 HC2
      · rw [decide_eq_false h2] at g1
        have e : simpN (k + 1) a l b m = (a / l * (simpN k m (b - a / l * m) l (a - a / l * l)).1 + (simpN k m (b - a / l * m) l (a - a / l * l)).2, (simpN k m (b - a / l * m) l (a - a / l * l)).1) := by rw [simpN, if_neg h1, if_neg h2]
        have B0 := simpN_best (k + 1) a l b m hk ha hl hm hab
        obtain ⟨z2, z1⟩ := B0.least a l hl (Nat.le_refl _) hab
        rw [e] at q1 q2 z1 z2
        obtain ⟨c, t, s, hc, ea, eb, ht0, ht, hs0, hs', hts, es, et⟩ := simp_facts hl hm hab h1 h2
        rw [es, et, hc] at q1 q2 z1 z2
        rw [hc] at n1
        have hk' : s + t ≤ k := by omega
        have hst : m * t ≤ l * s := by rw [Nat.mul_comm m t, Nat.mul_comm l s]; exact hts
        have B := simpN_best k m s l t hk' hm hs0 ht0 hst
        obtain ⟨p, q, hpq⟩ : ∃ p q, simpN k m s l t = (p, q) := ⟨_, _, rfl⟩
        obtain ⟨zz, zq⟩ := B.least m s hs0 (Nat.le_refl _) hst
        have b1 := B.pos1
        have b2 := B.pos2
        have b5 := B.cop
        rw [hpq] at q1 q2 z1 z2 zz zq b1 b2 b5
        have z1' : c * p + q ≤ a := z1
        have z2' : p ≤ l := z2
        have zz' : q ≤ s := zz
        have zq' : p ≤ m := zq
        have b1' : 0 < p := b1
        have b2' : 0 < q := b2
        have b5' : Nat.gcd p q = 1 := b5
        have gx : Nat.gcd a l = 1 := by have := x.reduced; rw [x1, x2, Int.natAbs_natCast] at this; exact this
        have gy : Nat.gcd b m = 1 := by have := y.reduced; rw [y1, y2, Int.natAbs_natCast] at this; exact this
        have gt : Nat.gcd t l = 1 := gcd_sub_mul gx ea
        have gs : Nat.gcd s m = 1 := gcd_sub_mul gy eb
        obtain ⟨r', r1, r2⟩ := rat_of_parts (p : Int) q (by omega) (by rw [Int.natAbs_natCast]; exact b5')
        -- the differences and their inverses
        have d1 : (y - n).num = (s : Int) ∧ (y - n).den = m := by
          rw [Rat.sub_eq_add_neg]
          refine parts_add y (-n) (by omega) (by rw [Int.natAbs_natCast]; exact gs) ?_
          rw [rat_neg_num, rat_neg_den, y1, y2, n1, n2, eb]
          simp only [Int.natCast_add, Int.natCast_mul, Int.natCast_one, Int.mul_one, Nat.mul_one]
          rw [Int.neg_mul, Int.add_right_comm, Int.add_right_neg, Int.zero_add]
        have d2 : (x - n).num = (t : Int) ∧ (x - n).den = l := by
          rw [Rat.sub_eq_add_neg]
          refine parts_add x (-n) (by omega) (by rw [Int.natAbs_natCast]; exact gt) ?_
          rw [rat_neg_num, rat_neg_den, x1, x2, n1, n2, ea]
          simp only [Int.natCast_add, Int.natCast_mul, Int.natCast_one, Int.mul_one, Nat.mul_one]
          rw [Int.neg_mul, Int.add_right_comm, Int.add_right_neg, Int.zero_add]
        have d3 : (one / (y - n)).num = (m : Int) ∧ (one / (y - n)).den = s := by
          refine parts_div one (y - n) (by rw [d1.1]; omega) (by omega) (by rw [Int.natAbs_natCast, Nat.gcd_comm]; exact gs) ?_
          rw [o1, o2, d1.1, d1.2, Int.natAbs_natCast, Int.one_mul, Nat.one_mul]
        have d4 : (one / (x - n)).num = (l : Int) ∧ (one / (x - n)).den = t := by
          refine parts_div one (x - n) (by rw [d2.1]; omega) (by omega) (by rw [Int.natAbs_natCast, Nat.gcd_comm]; exact gt) ?_
          rw [o1, o2, d2.1, d2.2, Int.natAbs_natCast, Int.one_mul, Nat.one_mul]
        have d5 : (one / r').num = (q : Int) ∧ (one / r').den = p := by
          refine parts_div one r' (by rw [r1]; omega) (by omega) (by rw [Int.natAbs_natCast, Nat.gcd_comm]; exact b5') ?_
          rw [o1, o2, r1, r2, Int.natAbs_natCast, Int.one_mul, Nat.one_mul]
        have d6 : (n + one / r').num = ((c * p + q : Nat) : Int) ∧ (n + one / r').den = p := by
          refine parts_add n (one / r') (by omega) ?_ ?_
          · rw [Int.natAbs_natCast, Nat.gcd_comm, Nat.mul_comm c p, Nat.gcd_mul_left_add_right]
            exact b5'
          · rw [n1, n2, d5.1, d5.2]
            simp only [Int.natCast_add, Int.natCast_mul, Int.mul_one, Nat.one_mul, Int.natCast_one]
        have er : n + one / r' = r := rat_eq (by rw [d6.1, q1]) (by rw [d6.2, q2])
        rw [← er]
        have nz : ∀ {v : Rat}, v.num ≠ 0 → v ≠ 0 := fun hv e => hv (by rw [e]; rfl)
        refine rs_rec x y n _ _ w h h' one (n + one) (y - n) (one / (y - n)) (x - n) (one / (x - n)) r' (one / r') (n + one / r') _ g0 g1 HD HO (by rw [← hc] at n1; exact ⟨n1, by rw [n2]; rfl⟩) HCn HW HP1 HC2 (Lib.hid fun wx u u' k1 k2 => rv_less 3 k1 k2 (by decide) by' bn) (Lib.hid fun wx u u' k1 k2 => rv_over 3 k1 k2 (by decide) bo ?_ ?_)
          (Lib.hid fun wx u u' k1 k2 => rv_less 3 k1 k2 (by decide) bx bn) (Lib.hid fun wx u u' k1 k2 => rv_over 3 k1 k2 (by decide) bo ?_ ?_)
          (Lib.hid fun wx u u' k1 k2 => rsimp_any k m s l t (one / (y - n)) (one / (x - n)) r' u u' wx hk' hm hs0 ht0 hst Mm (by omega) Ml (by omega) d3.1 d3.2 d4.1 d4.2 (by rw [hpq]; exact r1) (by rw [hpq]; exact r2) k1 k2)
          (Lib.hid fun wx u u' k1 k2 => rv_over 3 k1 k2 (by decide) bo ?_ ?_) (Lib.hid fun wx u u' k1 k2 => rv_plus 3 k1 k2 (by decide) bn ?_)
        · rw [d1.1, d1.2, Int.natAbs_natCast]; omega
        · exact nz (by rw [d1.1]; omega)
        · rw [d2.1, d2.2, Int.natAbs_natCast]; omega
        · exact nz (by rw [d2.1]; omega)
        · rw [r1, r2, Int.natAbs_natCast]; omega
        · exact nz (by rw [r1]; omega)
        · rw [d5.1, d5.2, Int.natAbs_natCast]; omega

end Go.Proofs.Ytjoanclnaeephaa

namespace Go.Proofs.Ytjoanclnaeephaa
open Go.RowKit

set_option maxRecDepth 100000 in
set_option maxHeartbeats 20000000 in
theorem rall2 (g : Nat) (t1 l1 t2 l2 : Int) (v1 v2 : Bool) (w : World) (hc : B4 g (.int .i64 t1) (.int .i64 l1) (.int .i64 t2) (.int .i64 l2) w) (hz : g < w.heap.size)
    (HV1 : Hid (∀ wx, Calls Try.prog 17 #[.agg #[.int .i64 t1, .int .i64 l1]] wx fun e w' => e = .returned (.bool v1) ∧ Below wx.heap.size wx w'))
    (HV2 : Hid (∀ wx, Calls Try.prog 17 #[.agg #[.int .i64 t2, .int .i64 l2]] wx fun e w' => e = .returned (.bool v2) ∧ Below wx.heap.size wx w')) :
    Calls Try.prog 43 #[.slice (some ⟨g, 0, none⟩) 2 2] w fun e w' => e = .returned (.bool (v1 && v2)) ∧ Below w.heap.size w w' := by
  have HC := Lib.hid hc
  have HZ := Lib.hid hz
  clear hc hz
  go_enter Try.func43, Try.ntmps43
  go_wp2_with fail
  go_loopw [7] (fun i wr => ∃ k : Nat, Hid (k ≤ 2) ∧ i = .int .i64 (k : Int) ∧ Hid (0 < k → v1 = true) ∧ Hid (1 < k → v2 = true) ∧ Hid (Below w.heap.size w wr)) (fun i _ => 2 - (intOf i).toNat)
  case atStart => exact ⟨0, Nat.zero_le _, rfl, Lib.hid (fun h => absurd h (by decide)), Lib.hid (fun h => absurd h (by decide)), Lib.hid (Below.refl _ _)⟩
  case round =>
    obtain ⟨k, hk, rfl, hv1, hv2, hB⟩ := hrel
    obtain ⟨k0, k1, k2, k3⟩ := HC.out.keep HZ.out hB.out
    have hk' := hk.out
    rcases (by omega : k = 0 ∨ k = 1 ∨ k = 2) with rfl | rfl | rfl
    · clear hk'
      go_upto_region 4 with fail
      generalize hY : wr.alloc _ = Y
      have HY : Hid (Below w.heap.size w Y) := by
        subst hY
        exact hB.out.alloc hB.out.size _
      obtain ⟨j0, j1⟩ : Y.cell? ⟨wr.heap.size, 0, none⟩ = some (.int .i64 t1) ∧ Y.cell? ⟨wr.heap.size, 1, none⟩ = some (.int .i64 l1) := by
        subst hY
        simp [go_sem]
      clear hY k0 k1 k2 k3
      go_wp2_with fail
      (with_reducible refine (HV1.out _).mono ?_)
      rintro e w1 ⟨rfl, hB1⟩
      have HB1 := Lib.hid (HY.out.trans (hB1.mono HY.out.size))
      clear j0 j1 hB1 HY
      cases v1 with
      | false =>
        go_wp2_with fail
        go_ret
        exact ⟨rfl, HB1.out⟩
      | true =>
        go_wp2_with fail
        go_roundw
        case rel => exact ⟨1, Lib.hid (by decide), rfl, Lib.hid (fun _ => by first | exact trivial | rfl), Lib.hid (fun h => absurd h (by decide)), HB1⟩
        case measure => simp [intOf]
    · clear hk'
      go_upto_region 4 with fail
      generalize hY : wr.alloc _ = Y
      have HY : Hid (Below w.heap.size w Y) := by
        subst hY
        exact hB.out.alloc hB.out.size _
      obtain ⟨j0, j1⟩ : Y.cell? ⟨wr.heap.size, 0, none⟩ = some (.int .i64 t2) ∧ Y.cell? ⟨wr.heap.size, 1, none⟩ = some (.int .i64 l2) := by
        subst hY
        simp [go_sem]
      have e1 : v1 = true := hv1.out (by decide)
      subst e1
      clear hY k0 k1 k2 k3
      go_wp2_with fail
      (with_reducible refine (HV2.out _).mono ?_)
      rintro e w1 ⟨rfl, hB1⟩
      have HB1 := Lib.hid (HY.out.trans (hB1.mono HY.out.size))
      clear j0 j1 hB1 HY
      cases v2 with
      | false =>
        go_wp2_with fail
        go_ret
        exact ⟨rfl, HB1.out⟩
      | true =>
        go_wp2_with fail
        go_roundw
        case rel => exact ⟨2, Lib.hid (by decide), rfl, Lib.hid (fun _ => by first | exact trivial | rfl), Lib.hid (fun _ => by first | exact trivial | rfl), HB1⟩
        case measure => simp [intOf]
    · have e1 : v1 = true := hv1.out (by decide)
      have e2 : v2 = true := hv2.out (by decide)
      subst e1 e2
      clear hk' k0 k1 k2 k3
      go_wp2_with fail
      go_ret
      exact ⟨rfl, hB.out⟩

end Go.Proofs.Ytjoanclnaeephaa

namespace Go.Proofs.Ytjoanclnaeephaa
open Go.RowKit


set_option maxRecDepth 100000 in
set_option maxHeartbeats 20000000 in
theorem rbtw_err (t1 l1 t2 l2 : Int) (w : World) (HAll : Hid (∀ wx g, B4 g (.int .i64 t1) (.int .i64 l1) (.int .i64 t2) (.int .i64 l2) wx → g < wx.heap.size → Calls Try.prog 43 #[.slice (some ⟨g, 0, none⟩) 2 2] wx fun e w' => e = .returned (.bool false) ∧ Below wx.heap.size wx w')) : Calls Try.prog 16 #[.agg #[.int .i64 t1, .int .i64 l1], .agg #[.int .i64 t2, .int .i64 l2]] w (Rt 0 0 1 w) := by
  go_enter Try.func16, Try.ntmps16
  go_upto_region 1 with fail
  obtain ⟨X, hX, hwX, hba, hbb, hW⟩ := nboxes3 w (.int .i64 t1) (.int .i64 l1) (.int .i64 t2) (.int .i64 l2)
  rw [hX]
  have HX : Hid (FB3 w (.int .i64 t1) (.int .i64 l1) (.int .i64 t2) (.int .i64 l2) X) := ⟨hwX, hba, hbb, hW⟩
  clear hX hwX hba hbb hW
  obtain ⟨k0, k1, -⟩ := HX.out.ba
  obtain ⟨j0, j1, -⟩ := HX.out.bb
  go_wp2_with fail
  (with_reducible refine (HAll.out _ X.heap.size (B4.new X _ _ _ _ _) (by simp)).mono ?_)
  rintro e w1 ⟨rfl, hB1⟩
  have HX1 := Lib.hid (HX.out.keep _ w1 ((below_alloc X _).trans (hB1.mono (by simp))))
  clear k0 k1 j0 j1 hB1 HX HAll
  obtain ⟨k0, k1, -⟩ := HX1.out.ba
  obtain ⟨j0, j1, -⟩ := HX1.out.bb
  obtain ⟨⟨o1, o2, o3, o4⟩, o5, o6, -⟩ := HX1.out.wc
  go_wp2_with fail
  exact bodyPost_ret (v := .tuple #[.agg #[.int .i64 0, .int .i64 0], .int .i64 1]) (by simp [results, Try.results16, go_sem, o3, o4]) rfl ⟨rfl, (HX1.out.below.setCell (Nat.le_trans (Nat.le_succ _) (Nat.le_succ _)) _).setCell (Nat.le_trans (Nat.le_succ _) (Nat.le_succ _)) _⟩

set_option maxRecDepth 100000 in
set_option maxHeartbeats 20000000 in
theorem rbtw_range (t1 l1 t2 l2 : Int) (q : Int) (x y : Rat) (w : World) (hq : decide (0 < q) = true) (HAll : Hid (∀ wx g, B4 g (.int .i64 t1) (.int .i64 l1) (.int .i64 t2) (.int .i64 l2) wx → g < wx.heap.size → Calls Try.prog 43 #[.slice (some ⟨g, 0, none⟩) 2 2] wx fun e w' => e = .returned (.bool true) ∧ Below wx.heap.size wx w'))
    (HTa : Hid (∀ wx, Calls Try.prog 18 #[.agg #[.int .i64 t1, .int .i64 l1]] wx (RetV (.rat x) wx))) (HTb : Hid (∀ wx, Calls Try.prog 18 #[.agg #[.int .i64 t2, .int .i64 l2]] wx (RetV (.rat y) wx))) (HC : Hid (∀ wx u u', RFV wx u x → RFV wx u' y → Calls Try.prog 19 #[u, u'] wx (RetV (.val (.int .i64 q)) wx))) : Calls Try.prog 16 #[.agg #[.int .i64 t1, .int .i64 l1], .agg #[.int .i64 t2, .int .i64 l2]] w (Rt 0 0 6 w) := by
  go_enter Try.func16, Try.ntmps16
  go_upto_region 1 with fail
  obtain ⟨X, hX, hwX, hba, hbb, hW⟩ := nboxes3 w (.int .i64 t1) (.int .i64 l1) (.int .i64 t2) (.int .i64 l2)
  rw [hX]
  have HX : Hid (FB3 w (.int .i64 t1) (.int .i64 l1) (.int .i64 t2) (.int .i64 l2) X) := ⟨hwX, hba, hbb, hW⟩
  clear hX hwX hba hbb hW
  obtain ⟨k0, k1, -⟩ := HX.out.ba
  obtain ⟨j0, j1, -⟩ := HX.out.bb
  go_wp2_with fail
  (with_reducible refine (HAll.out _ X.heap.size (B4.new X _ _ _ _ _) (by simp)).mono ?_)
  rintro e w1 ⟨rfl, hB1⟩
  have HX1 := Lib.hid (HX.out.keep _ w1 ((below_alloc X _).trans (hB1.mono (by simp))))
  clear k0 k1 j0 j1 hB1 HX HAll
  go_upto_region 3 with fail
  refine wp_region_flow 7 [14, 15, 16, 17, 18, 19, 13] (fun i => if i = 6 then 13 else 14 + i) (FB3 w (.int .i64 t1) (.int .i64 l1) (.int .i64 t2) (.int .i64 l2)) (Spl [.val (.agg #[.int .i64 t1, .int .i64 l1]), .rat x, .val (.agg #[.int .i64 t2, .int .i64 l2]), .rat y, .val (.int .i64 q), .val (.bool true), .val (.bool true)]) (by kernel_rfl) (by kernel_rfl) (by kernel_rfl) (by kernel_rfl) (fun i j hi hj h => by have h : (if i = 6 then 13 else 14 + i) = (if j = 6 then 13 else 14 + j) := h; split at h <;> split at h <;> omega) (by decide) FB3.keep Spl.keep ?_ ?_ ?_
  · exact HX1.out.keep _ _ (Below.drew (Below.refl _ _))
  · intro i v wx o T' K ho hF hdep hin hout hK
    have hi : i < 7 := (Array.getElem?_eq_some_iff.1 ho).1
    have q14 := hin 14 (by decide)
    have q15 := hin 15 (by decide)
    have q16 := hin 16 (by decide)
    have q17 := hin 17 (by decide)
    have q18 := hin 18 (by decide)
    have q19 := hin 19 (by decide)
    have q13 := hin 13 (by decide)
    have sl2 : T'[2]? = some (.pointer (some ⟨w.heap.size, 0, none⟩)) := (hout 2 (by decide)).trans rfl
    have sl3 : T'[3]? = some (.pointer (some ⟨w.heap.size + 1, 0, none⟩)) := (hout 3 (by decide)).trans rfl
    clear hin hout
    have HF := Lib.hid hF
    have HD := Lib.hid hdep
    clear hF hdep
    rcases (by omega : i = 0 ∨ i = 1 ∨ i = 2 ∨ i = 3 ∨ i = 4 ∨ i = 5 ∨ i = 6) with rfl | rfl | rfl | rfl | rfl | rfl | rfl
    · obtain rfl := Option.some.inj ho
      obtain ⟨k0, k1, k2⟩ := HF.out.ba
      have hP := (rfl : Value.agg #[.int .i64 t1, .int .i64 l1] = .agg #[.int .i64 t1, .int .i64 l1])
      clear q14 q15 q16 q17 q18 q19 q13 sl3 ho hi
      go_simp
      exact hK _ _ (Below.refl _ _) hP
    · obtain rfl := Option.some.inj ho
      have e0 : v 14 = (.agg #[.int .i64 t1, .int .i64 l1]) := HD.out ⟨0, .data⟩ (by simp) rfl
      rw [e0] at q14
      clear q15 q16 q17 q18 q19 q13 sl2 sl3 ho hi
      go_simp
      (with_reducible refine (HTa.out _).mono ?_)
      rintro e w2 ⟨u, rfl, hu, hB⟩
      exact hK _ _ hB hu
    · obtain rfl := Option.some.inj ho
      obtain ⟨k0, k1, k2⟩ := HF.out.bb
      have hP := (rfl : Value.agg #[.int .i64 t2, .int .i64 l2] = .agg #[.int .i64 t2, .int .i64 l2])
      clear q14 q15 q16 q17 q18 q19 q13 sl2 ho hi
      go_simp
      exact hK _ _ (Below.refl _ _) hP
    · obtain rfl := Option.some.inj ho
      have e0 : v 16 = (.agg #[.int .i64 t2, .int .i64 l2]) := HD.out ⟨2, .data⟩ (by simp) rfl
      rw [e0] at q16
      clear q14 q15 q17 q18 q19 q13 sl2 sl3 ho hi
      go_simp
      (with_reducible refine (HTb.out _).mono ?_)
      rintro e w2 ⟨u, rfl, hu, hB⟩
      exact hK _ _ hB hu
    · obtain rfl := Option.some.inj ho
      have h0 : RFV wx (v 15) x := HD.out ⟨1, .data⟩ (by simp) rfl
      have h1 : RFV wx (v 17) y := HD.out ⟨3, .data⟩ (by simp) rfl
      clear q14 q16 q18 q19 q13 sl2 sl3 ho hi
      go_simp
      (with_reducible refine (HC.out _ _ _ h0 h1).mono ?_)
      rintro e w2 ⟨u, rfl, hu, hB⟩
      exact hK _ _ hB hu
    · obtain rfl := Option.some.inj ho
      have e0 : v 18 = (.int .i64 q) := HD.out ⟨4, .data⟩ (by simp) rfl
      rw [e0] at q18
      clear q14 q15 q16 q17 q19 q13 sl2 sl3 ho hi
      go_simp
      exact hK _ _ (Below.refl _ _) rfl
    · obtain rfl := Option.some.inj ho
      have e0 : v 19 = (.bool true) := HD.out ⟨5, .data⟩ (by simp) rfl
      rw [e0] at q19
      clear q14 q15 q16 q17 q18 q13 sl2 sl3 ho hi
      go_simp
      exact hK _ _ (Below.refl _ _) rfl
  · intro v wx hF hall
    have h13 : v 13 = .bool true := hall 6 (by decide)
    have HF := Lib.hid hF
    clear hF hall
    simp only [over, List.setIfInBounds_toArray, List.set_cons_zero, List.set_cons_succ]
    rw [h13]
    generalize v 14 = v14
    generalize v 15 = v15
    generalize v 16 = v16
    generalize v 17 = v17
    generalize v 18 = v18
    generalize v 19 = v19
    clear HC
    obtain ⟨k0, k1, -⟩ := HF.out.ba
    obtain ⟨j0, j1, -⟩ := HF.out.bb
    obtain ⟨⟨o1, o2, o3, o4⟩, o5, o6, -⟩ := HF.out.wc
    go_wp2_with fail
    exact bodyPost_ret (v := .tuple #[.agg #[.int .i64 0, .int .i64 0], .int .i64 6]) (by simp [results, Try.results16, go_sem, o3, o4]) rfl ⟨rfl, (HF.out.below.setCell (Nat.le_trans (Nat.le_succ _) (Nat.le_succ _)) _).setCell (Nat.le_trans (Nat.le_succ _) (Nat.le_succ _)) _⟩

set_option maxRecDepth 100000 in
set_option maxHeartbeats 20000000 in
theorem rbtw_zero (t1 l1 t2 l2 : Int) (q : Int) (x y : Rat) (w : World) (hq : decide (0 < q) = false) (g1 : decide (t1 ≤ 0) = true) (g2 : decide (0 ≤ t2) = true) (HAll : Hid (∀ wx g, B4 g (.int .i64 t1) (.int .i64 l1) (.int .i64 t2) (.int .i64 l2) wx → g < wx.heap.size → Calls Try.prog 43 #[.slice (some ⟨g, 0, none⟩) 2 2] wx fun e w' => e = .returned (.bool true) ∧ Below wx.heap.size wx w'))
    (HTa : Hid (∀ wx, Calls Try.prog 18 #[.agg #[.int .i64 t1, .int .i64 l1]] wx (RetV (.rat x) wx))) (HTb : Hid (∀ wx, Calls Try.prog 18 #[.agg #[.int .i64 t2, .int .i64 l2]] wx (RetV (.rat y) wx))) (HC : Hid (∀ wx u u', RFV wx u x → RFV wx u' y → Calls Try.prog 19 #[u, u'] wx (RetV (.val (.int .i64 q)) wx))) : Calls Try.prog 16 #[.agg #[.int .i64 t1, .int .i64 l1], .agg #[.int .i64 t2, .int .i64 l2]] w (Rt 0 1 0 w) := by
  go_enter Try.func16, Try.ntmps16
  go_upto_region 1 with fail
  obtain ⟨X, hX, hwX, hba, hbb, hW⟩ := nboxes3 w (.int .i64 t1) (.int .i64 l1) (.int .i64 t2) (.int .i64 l2)
  rw [hX]
  have HX : Hid (FB3 w (.int .i64 t1) (.int .i64 l1) (.int .i64 t2) (.int .i64 l2) X) := ⟨hwX, hba, hbb, hW⟩
  clear hX hwX hba hbb hW
  obtain ⟨k0, k1, -⟩ := HX.out.ba
  obtain ⟨j0, j1, -⟩ := HX.out.bb
  go_wp2_with fail
  (with_reducible refine (HAll.out _ X.heap.size (B4.new X _ _ _ _ _) (by simp)).mono ?_)
  rintro e w1 ⟨rfl, hB1⟩
  have HX1 := Lib.hid (HX.out.keep _ w1 ((below_alloc X _).trans (hB1.mono (by simp))))
  clear k0 k1 j0 j1 hB1 HX HAll
  go_upto_region 3 with fail
  refine wp_region_flow 7 [14, 15, 16, 17, 18, 19, 13] (fun i => if i = 6 then 13 else 14 + i) (FB3 w (.int .i64 t1) (.int .i64 l1) (.int .i64 t2) (.int .i64 l2)) (Spl [.val (.agg #[.int .i64 t1, .int .i64 l1]), .rat x, .val (.agg #[.int .i64 t2, .int .i64 l2]), .rat y, .val (.int .i64 q), .val (.bool false), .val (.bool false)]) (by kernel_rfl) (by kernel_rfl) (by kernel_rfl) (by kernel_rfl) (fun i j hi hj h => by have h : (if i = 6 then 13 else 14 + i) = (if j = 6 then 13 else 14 + j) := h; split at h <;> split at h <;> omega) (by decide) FB3.keep Spl.keep ?_ ?_ ?_
  · exact HX1.out.keep _ _ (Below.drew (Below.refl _ _))
  · intro i v wx o T' K ho hF hdep hin hout hK
    have hi : i < 7 := (Array.getElem?_eq_some_iff.1 ho).1
    have q14 := hin 14 (by decide)
    have q15 := hin 15 (by decide)
    have q16 := hin 16 (by decide)
    have q17 := hin 17 (by decide)
    have q18 := hin 18 (by decide)
    have q19 := hin 19 (by decide)
    have q13 := hin 13 (by decide)
    have sl2 : T'[2]? = some (.pointer (some ⟨w.heap.size, 0, none⟩)) := (hout 2 (by decide)).trans rfl
    have sl3 : T'[3]? = some (.pointer (some ⟨w.heap.size + 1, 0, none⟩)) := (hout 3 (by decide)).trans rfl
    clear hin hout
    have HF := Lib.hid hF
    have HD := Lib.hid hdep
    clear hF hdep
    rcases (by omega : i = 0 ∨ i = 1 ∨ i = 2 ∨ i = 3 ∨ i = 4 ∨ i = 5 ∨ i = 6) with rfl | rfl | rfl | rfl | rfl | rfl | rfl
    · obtain rfl := Option.some.inj ho
      obtain ⟨k0, k1, k2⟩ := HF.out.ba
      have hP := (rfl : Value.agg #[.int .i64 t1, .int .i64 l1] = .agg #[.int .i64 t1, .int .i64 l1])
      clear q14 q15 q16 q17 q18 q19 q13 sl3 ho hi
      go_simp
      exact hK _ _ (Below.refl _ _) hP
    · obtain rfl := Option.some.inj ho
      have e0 : v 14 = (.agg #[.int .i64 t1, .int .i64 l1]) := HD.out ⟨0, .data⟩ (by simp) rfl
      rw [e0] at q14
      clear q15 q16 q17 q18 q19 q13 sl2 sl3 ho hi
      go_simp
      (with_reducible refine (HTa.out _).mono ?_)
      rintro e w2 ⟨u, rfl, hu, hB⟩
      exact hK _ _ hB hu
    · obtain rfl := Option.some.inj ho
      obtain ⟨k0, k1, k2⟩ := HF.out.bb
      have hP := (rfl : Value.agg #[.int .i64 t2, .int .i64 l2] = .agg #[.int .i64 t2, .int .i64 l2])
      clear q14 q15 q16 q17 q18 q19 q13 sl2 ho hi
      go_simp
      exact hK _ _ (Below.refl _ _) hP
    · obtain rfl := Option.some.inj ho
      have e0 : v 16 = (.agg #[.int .i64 t2, .int .i64 l2]) := HD.out ⟨2, .data⟩ (by simp) rfl
      rw [e0] at q16
      clear q14 q15 q17 q18 q19 q13 sl2 sl3 ho hi
      go_simp
      (with_reducible refine (HTb.out _).mono ?_)
      rintro e w2 ⟨u, rfl, hu, hB⟩
      exact hK _ _ hB hu
    · obtain rfl := Option.some.inj ho
      have h0 : RFV wx (v 15) x := HD.out ⟨1, .data⟩ (by simp) rfl
      have h1 : RFV wx (v 17) y := HD.out ⟨3, .data⟩ (by simp) rfl
      clear q14 q16 q18 q19 q13 sl2 sl3 ho hi
      go_simp
      (with_reducible refine (HC.out _ _ _ h0 h1).mono ?_)
      rintro e w2 ⟨u, rfl, hu, hB⟩
      exact hK _ _ hB hu
    · obtain rfl := Option.some.inj ho
      have e0 : v 18 = (.int .i64 q) := HD.out ⟨4, .data⟩ (by simp) rfl
      rw [e0] at q18
      clear q14 q15 q16 q17 q19 q13 sl2 sl3 ho hi
      go_simp
      exact hK _ _ (Below.refl _ _) rfl
    · obtain rfl := Option.some.inj ho
      have e0 : v 19 = (.bool false) := HD.out ⟨5, .data⟩ (by simp) rfl
      rw [e0] at q19
      clear q14 q15 q16 q17 q18 q13 sl2 sl3 ho hi
      go_simp
      exact hK _ _ (Below.refl _ _) rfl
  · intro v wx hF hall
    have h13 : v 13 = .bool false := hall 6 (by decide)
    have HF := Lib.hid hF
    clear hF hall
    simp only [over, List.setIfInBounds_toArray, List.set_cons_zero, List.set_cons_succ]
    rw [h13]
    generalize v 14 = v14
    generalize v 15 = v15
    generalize v 16 = v16
    generalize v 17 = v17
    generalize v 18 = v18
    generalize v 19 = v19
    clear HC
    obtain ⟨k0, k1, -⟩ := HF.out.ba
    obtain ⟨j0, j1, -⟩ := HF.out.bb
    obtain ⟨⟨o1, o2, o3, o4⟩, o5, o6, -⟩ := HF.out.wc
    go_wp2_with fail
    exact bodyPost_ret (v := .tuple #[.agg #[.int .i64 0, .int .i64 1], .int .i64 0]) (by simp [results, Try.results16, go_sem, o3, o4]) rfl ⟨rfl, (HF.out.below.setCell (Nat.le_trans (Nat.le_succ _) (Nat.le_succ _)) _).setCell (Nat.le_trans (Nat.le_succ _) (Nat.le_succ _)) _⟩

set_option maxRecDepth 100000 in
set_option maxHeartbeats 20000000 in
theorem rbtw_pos (t1 l1 t2 l2 : Int) (q p1 p2 er : Int) (x y r : Rat) (w : World) (hq : decide (0 < q) = false) (g1 : decide (t1 ≤ 0) = false) (g2 : decide (0 < t1) = true) (HAll : Hid (∀ wx g, B4 g (.int .i64 t1) (.int .i64 l1) (.int .i64 t2) (.int .i64 l2) wx → g < wx.heap.size → Calls Try.prog 43 #[.slice (some ⟨g, 0, none⟩) 2 2] wx fun e w' => e = .returned (.bool true) ∧ Below wx.heap.size wx w'))
    (HTa : Hid (∀ wx, Calls Try.prog 18 #[.agg #[.int .i64 t1, .int .i64 l1]] wx (RetV (.rat x) wx))) (HTb : Hid (∀ wx, Calls Try.prog 18 #[.agg #[.int .i64 t2, .int .i64 l2]] wx (RetV (.rat y) wx))) (HC : Hid (∀ wx u u', RFV wx u x → RFV wx u' y → Calls Try.prog 19 #[u, u'] wx (RetV (.val (.int .i64 q)) wx)))
    (HS : Hid (∀ wx u u', RFV wx u x → RFV wx u' y → Calls Try.prog 44 #[u, u'] wx (RetV (.rat r) wx))) (HN : Hid (∀ wx u, RFV wx u r → Calls Try.prog 27 #[u] wx (RetV (.val (.tuple #[.agg #[.int .i64 p1, .int .i64 p2], .int .i64 er])) wx))) : Calls Try.prog 16 #[.agg #[.int .i64 t1, .int .i64 l1], .agg #[.int .i64 t2, .int .i64 l2]] w (Rt p1 p2 er w) := by
  go_enter Try.func16, Try.ntmps16
  go_upto_region 1 with fail
  obtain ⟨X, hX, hwX, hba, hbb, hW⟩ := nboxes3 w (.int .i64 t1) (.int .i64 l1) (.int .i64 t2) (.int .i64 l2)
  rw [hX]
  have HX : Hid (FB3 w (.int .i64 t1) (.int .i64 l1) (.int .i64 t2) (.int .i64 l2) X) := ⟨hwX, hba, hbb, hW⟩
  clear hX hwX hba hbb hW
  obtain ⟨k0, k1, -⟩ := HX.out.ba
  obtain ⟨j0, j1, -⟩ := HX.out.bb
  go_wp2_with fail
  (with_reducible refine (HAll.out _ X.heap.size (B4.new X _ _ _ _ _) (by simp)).mono ?_)
  rintro e w1 ⟨rfl, hB1⟩
  have HX1 := Lib.hid (HX.out.keep _ w1 ((below_alloc X _).trans (hB1.mono (by simp))))
  clear k0 k1 j0 j1 hB1 HX HAll
  go_upto_region 3 with fail
  refine wp_region_flow 7 [14, 15, 16, 17, 18, 19, 13] (fun i => if i = 6 then 13 else 14 + i) (FB3 w (.int .i64 t1) (.int .i64 l1) (.int .i64 t2) (.int .i64 l2)) (Spl [.val (.agg #[.int .i64 t1, .int .i64 l1]), .rat x, .val (.agg #[.int .i64 t2, .int .i64 l2]), .rat y, .val (.int .i64 q), .val (.bool false), .val (.bool false)]) (by kernel_rfl) (by kernel_rfl) (by kernel_rfl) (by kernel_rfl) (fun i j hi hj h => by have h : (if i = 6 then 13 else 14 + i) = (if j = 6 then 13 else 14 + j) := h; split at h <;> split at h <;> omega) (by decide) FB3.keep Spl.keep ?_ ?_ ?_
  · exact HX1.out.keep _ _ (Below.drew (Below.refl _ _))
  · intro i v wx o T' K ho hF hdep hin hout hK
    have hi : i < 7 := (Array.getElem?_eq_some_iff.1 ho).1
    have q14 := hin 14 (by decide)
    have q15 := hin 15 (by decide)
    have q16 := hin 16 (by decide)
    have q17 := hin 17 (by decide)
    have q18 := hin 18 (by decide)
    have q19 := hin 19 (by decide)
    have q13 := hin 13 (by decide)
    have sl2 : T'[2]? = some (.pointer (some ⟨w.heap.size, 0, none⟩)) := (hout 2 (by decide)).trans rfl
    have sl3 : T'[3]? = some (.pointer (some ⟨w.heap.size + 1, 0, none⟩)) := (hout 3 (by decide)).trans rfl
    clear hin hout
    have HF := Lib.hid hF
    have HD := Lib.hid hdep
    clear hF hdep
    rcases (by omega : i = 0 ∨ i = 1 ∨ i = 2 ∨ i = 3 ∨ i = 4 ∨ i = 5 ∨ i = 6) with rfl | rfl | rfl | rfl | rfl | rfl | rfl
    · obtain rfl := Option.some.inj ho
      obtain ⟨k0, k1, k2⟩ := HF.out.ba
      have hP := (rfl : Value.agg #[.int .i64 t1, .int .i64 l1] = .agg #[.int .i64 t1, .int .i64 l1])
      clear q14 q15 q16 q17 q18 q19 q13 sl3 ho hi
      go_simp
      exact hK _ _ (Below.refl _ _) hP
    · obtain rfl := Option.some.inj ho
      have e0 : v 14 = (.agg #[.int .i64 t1, .int .i64 l1]) := HD.out ⟨0, .data⟩ (by simp) rfl
      rw [e0] at q14
      clear q15 q16 q17 q18 q19 q13 sl2 sl3 ho hi
      go_simp
      (with_reducible refine (HTa.out _).mono ?_)
      rintro e w2 ⟨u, rfl, hu, hB⟩
      exact hK _ _ hB hu
    · obtain rfl := Option.some.inj ho
      obtain ⟨k0, k1, k2⟩ := HF.out.bb
      have hP := (rfl : Value.agg #[.int .i64 t2, .int .i64 l2] = .agg #[.int .i64 t2, .int .i64 l2])
      clear q14 q15 q16 q17 q18 q19 q13 sl2 ho hi
      go_simp
      exact hK _ _ (Below.refl _ _) hP
    · obtain rfl := Option.some.inj ho
      have e0 : v 16 = (.agg #[.int .i64 t2, .int .i64 l2]) := HD.out ⟨2, .data⟩ (by simp) rfl
      rw [e0] at q16
      clear q14 q15 q17 q18 q19 q13 sl2 sl3 ho hi
      go_simp
      (with_reducible refine (HTb.out _).mono ?_)
      rintro e w2 ⟨u, rfl, hu, hB⟩
      exact hK _ _ hB hu
    · obtain rfl := Option.some.inj ho
      have h0 : RFV wx (v 15) x := HD.out ⟨1, .data⟩ (by simp) rfl
      have h1 : RFV wx (v 17) y := HD.out ⟨3, .data⟩ (by simp) rfl
      clear q14 q16 q18 q19 q13 sl2 sl3 ho hi
      go_simp
      (with_reducible refine (HC.out _ _ _ h0 h1).mono ?_)
      rintro e w2 ⟨u, rfl, hu, hB⟩
      exact hK _ _ hB hu
    · obtain rfl := Option.some.inj ho
      have e0 : v 18 = (.int .i64 q) := HD.out ⟨4, .data⟩ (by simp) rfl
      rw [e0] at q18
      clear q14 q15 q16 q17 q19 q13 sl2 sl3 ho hi
      go_simp
      exact hK _ _ (Below.refl _ _) rfl
    · obtain rfl := Option.some.inj ho
      have e0 : v 19 = (.bool false) := HD.out ⟨5, .data⟩ (by simp) rfl
      rw [e0] at q19
      clear q14 q15 q16 q17 q18 q13 sl2 sl3 ho hi
      go_simp
      exact hK _ _ (Below.refl _ _) rfl
  · intro v wx hF hall
    have h13 : v 13 = .bool false := hall 6 (by decide)
    have HF := Lib.hid hF
    clear hF hall
    simp only [over, List.setIfInBounds_toArray, List.set_cons_zero, List.set_cons_succ]
    rw [h13]
    generalize v 14 = v14
    generalize v 15 = v15
    generalize v 16 = v16
    generalize v 17 = v17
    generalize v 18 = v18
    generalize v 19 = v19
    clear HC
    obtain ⟨k0, k1, -⟩ := HF.out.ba
    obtain ⟨j0, j1, -⟩ := HF.out.bb
    obtain ⟨⟨o1, o2, o3, o4⟩, o5, o6, -⟩ := HF.out.wc
    go_upto_region 8 with fail
    clear k0 k1 j0 j1 o3 o4 o5 o6
    refine wp_region_flow_put 8 5 (.int .i64 er) [35, 36, 37, 38, 39, 40, 41, 42, 5] (fun i => 35 + i) (FB3 w (.int .i64 t1) (.int .i64 l1) (.int .i64 t2) (.int .i64 l2)) (fun wx => B2n (w.heap.size + 1 + 1) (.int .i64 p1) (.int .i64 p2) wx ∧ Below w.heap.size w wx) (fun v wx => v 42 = .int .i64 er ∧ B2n (w.heap.size + 1 + 1) (.int .i64 p1) (.int .i64 p2) wx ∧ Below w.heap.size w wx) (Spl [.val (.agg #[.int .i64 t1, .int .i64 l1]), .rat x, .val (.agg #[.int .i64 t2, .int .i64 l2]), .rat y, .rat r, .val (.tuple #[.agg #[.int .i64 p1, .int .i64 p2], .int .i64 er]), .val (.agg #[.int .i64 p1, .int .i64 p2]), .val (.int .i64 er)]) (by kernel_rfl) (by kernel_rfl) (by kernel_rfl) (by kernel_rfl) (by kernel_rfl) (by kernel_rfl) (by decide) (fun i j _ _ h => Nat.add_left_cancel (show 35 + i = 35 + j from h)) (by decide) FB3.keep Spl.keep ?_ ?_ ?_ ?_ ?_
    · exact HF.out.keep _ _ (Below.drew (Below.refl _ _))
    · intro i v wx o T' K hi ho hF hdep hin hout hK
      have q35 := hin 35 (by decide)
      have q36 := hin 36 (by decide)
      have q37 := hin 37 (by decide)
      have q38 := hin 38 (by decide)
      have q39 := hin 39 (by decide)
      have q40 := hin 40 (by decide)
      have q41 := hin 41 (by decide)
      have q42 := hin 42 (by decide)
      have sl2 : T'[2]? = some (.pointer (some ⟨w.heap.size, 0, none⟩)) := (hout 2 (by decide)).trans rfl
      have sl3 : T'[3]? = some (.pointer (some ⟨w.heap.size + 1, 0, none⟩)) := (hout 3 (by decide)).trans rfl
      have sl4 : T'[4]? = some (.pointer (some ⟨w.heap.size + 1 + 1, 0, none⟩)) := (hout 4 (by decide)).trans rfl
      clear hin hout
      have HF := Lib.hid hF
      have HD := Lib.hid hdep
      clear hF hdep
      rcases (by omega : i = 0 ∨ i = 1 ∨ i = 2 ∨ i = 3 ∨ i = 4 ∨ i = 5 ∨ i = 6 ∨ i = 7) with rfl | rfl | rfl | rfl | rfl | rfl | rfl | rfl
      · obtain rfl := Option.some.inj ho
        obtain ⟨k0, k1, k2⟩ := HF.out.ba
        have hP := (rfl : Value.agg #[.int .i64 t1, .int .i64 l1] = .agg #[.int .i64 t1, .int .i64 l1])
        clear q35 q36 q37 q38 q39 q40 q41 q42 sl3 sl4 ho hi
        go_simp
        exact hK _ _ (Below.refl _ _) hP
      · obtain rfl := Option.some.inj ho
        have e0 : v 35 = (.agg #[.int .i64 t1, .int .i64 l1]) := HD.out ⟨0, .data⟩ (by simp) rfl
        rw [e0] at q35
        clear q36 q37 q38 q39 q40 q41 q42 sl2 sl3 sl4 ho hi
        go_simp
        (with_reducible refine (HTa.out _).mono ?_)
        rintro e w2 ⟨u, rfl, hu, hB⟩
        exact hK _ _ hB hu
      · obtain rfl := Option.some.inj ho
        obtain ⟨k0, k1, k2⟩ := HF.out.bb
        have hP := (rfl : Value.agg #[.int .i64 t2, .int .i64 l2] = .agg #[.int .i64 t2, .int .i64 l2])
        clear q35 q36 q37 q38 q39 q40 q41 q42 sl2 sl4 ho hi
        go_simp
        exact hK _ _ (Below.refl _ _) hP
      · obtain rfl := Option.some.inj ho
        have e0 : v 37 = (.agg #[.int .i64 t2, .int .i64 l2]) := HD.out ⟨2, .data⟩ (by simp) rfl
        rw [e0] at q37
        clear q35 q36 q38 q39 q40 q41 q42 sl2 sl3 sl4 ho hi
        go_simp
        (with_reducible refine (HTb.out _).mono ?_)
        rintro e w2 ⟨u, rfl, hu, hB⟩
        exact hK _ _ hB hu
      · obtain rfl := Option.some.inj ho
        have h0 : RFV wx (v 36) x := HD.out ⟨1, .data⟩ (by simp) rfl
        have h1 : RFV wx (v 38) y := HD.out ⟨3, .data⟩ (by simp) rfl
        clear q35 q37 q39 q40 q41 q42 sl2 sl3 sl4 ho hi
        go_simp
        (with_reducible refine (HS.out _ _ _ h0 h1).mono ?_)
        rintro e w2 ⟨u, rfl, hu, hB⟩
        exact hK _ _ hB hu
      · obtain rfl := Option.some.inj ho
        have h0 : RFV wx (v 39) r := HD.out ⟨4, .data⟩ (by simp) rfl
        clear q35 q36 q37 q38 q40 q41 q42 sl2 sl3 sl4 ho hi
        go_simp
        (with_reducible refine (HN.out _ _ h0).mono ?_)
        rintro e w2 ⟨u, rfl, hu, hB⟩
        exact hK _ _ hB hu
      · obtain rfl := Option.some.inj ho
        have e0 : v 40 = (.tuple #[.agg #[.int .i64 p1, .int .i64 p2], .int .i64 er]) := HD.out ⟨5, .data⟩ (by simp) rfl
        rw [e0] at q40
        clear q35 q36 q37 q38 q39 q41 q42 sl2 sl3 sl4 ho hi
        go_simp
        exact hK _ _ (Below.refl _ _) rfl
      · obtain rfl := Option.some.inj ho
        have e0 : v 40 = (.tuple #[.agg #[.int .i64 p1, .int .i64 p2], .int .i64 er]) := HD.out ⟨5, .data⟩ (by simp) rfl
        rw [e0] at q40
        clear q35 q36 q37 q38 q39 q41 q42 sl2 sl3 sl4 ho hi
        go_simp
        exact hK _ _ (Below.refl _ _) rfl
    · intro v wx o T' K ho hF hall hin hout hK
      obtain rfl := Option.some.inj ho
      have sl4 : T'[4]? = some (.pointer (some ⟨w.heap.size + 1 + 1, 0, none⟩)) := (hout 4 (by decide)).trans rfl
      have q41 := hin 41 (by decide)
      have h0 : v 41 = (.agg #[.int .i64 p1, .int .i64 p2]) := hall 6 (by decide)
      have h1 : v 42 = .int .i64 er := hall 7 (by decide)
      clear hin hout hall ho
      have h9 : v 42 = .int .i64 er := h1
      rw [h0] at q41
      have HR : Hid (B2n (w.heap.size + 1 + 1) (.int .i64 p1) (.int .i64 p2) (st2 wx (w.heap.size + 1 + 1) (.int .i64 p1) (.int .i64 p2)) ∧ Below w.heap.size w (st2 wx (w.heap.size + 1 + 1) (.int .i64 p1) (.int .i64 p2))) := ⟨(hF.wc.put _ _).1, st2_below hF.below (Nat.le_trans (Nat.le_succ _) (Nat.le_succ _)) _ _⟩
      obtain ⟨⟨o1, o2, o3, o4⟩, o5, o6, -⟩ := hF.wc
      clear h0 hF
      go_simp
      exact hK _ ⟨h9, HR.out⟩
    · intro v wx o T' K ho hM hin hout hK
      obtain rfl := Option.some.inj ho
      have q42 := hin 42 (by decide)
      rw [hM.1] at q42
      clear hin hout ho
      go_simp
      exact hK _ hM.2
    · intro v wx hV hE
      obtain ⟨⟨k0, k1, -⟩, hB⟩ := hE
      have HB := Lib.hid hB
      clear hB
      simp only [over, List.setIfInBounds_toArray, List.set_cons_zero, List.set_cons_succ]
      rw [hV]
      generalize v 35 = v35
      generalize v 36 = v36
      generalize v 37 = v37
      generalize v 38 = v38
      generalize v 39 = v39
      generalize v 40 = v40
      generalize v 41 = v41
      generalize v 42 = v42
      go_wp2_with fail
      exact bodyPost_ret (v := .tuple #[.agg #[.int .i64 p1, .int .i64 p2], .int .i64 er]) (by simp [results, Try.results16, go_sem, k0, k1]) rfl ⟨rfl, HB.out⟩

set_option maxRecDepth 100000 in
set_option maxHeartbeats 20000000 in
theorem rbtw_neg (t1 l1 t2 l2 : Int) (q p1 p2 er : Int) (x y nx ny r z : Rat) (w : World) (hq : decide (0 < q) = false) (g1 : decide (t1 ≤ 0) = true) (g2 : decide (0 ≤ t2) = false) (g3 : decide (0 < t1) = false) (HAll : Hid (∀ wx g, B4 g (.int .i64 t1) (.int .i64 l1) (.int .i64 t2) (.int .i64 l2) wx → g < wx.heap.size → Calls Try.prog 43 #[.slice (some ⟨g, 0, none⟩) 2 2] wx fun e w' => e = .returned (.bool true) ∧ Below wx.heap.size wx w'))
    (HTa : Hid (∀ wx, Calls Try.prog 18 #[.agg #[.int .i64 t1, .int .i64 l1]] wx (RetV (.rat x) wx))) (HTb : Hid (∀ wx, Calls Try.prog 18 #[.agg #[.int .i64 t2, .int .i64 l2]] wx (RetV (.rat y) wx))) (HC : Hid (∀ wx u u', RFV wx u x → RFV wx u' y → Calls Try.prog 19 #[u, u'] wx (RetV (.val (.int .i64 q)) wx)))
    (HMy : Hid (∀ wx u, RFV wx u y → Calls Try.prog 45 #[u] wx (RetV (.rat ny) wx))) (HMx : Hid (∀ wx u, RFV wx u x → Calls Try.prog 45 #[u] wx (RetV (.rat nx) wx))) (HS : Hid (∀ wx u u', RFV wx u ny → RFV wx u' nx → Calls Try.prog 44 #[u, u'] wx (RetV (.rat r) wx))) (HMr : Hid (∀ wx u, RFV wx u r → Calls Try.prog 45 #[u] wx (RetV (.rat z) wx))) (HN : Hid (∀ wx u, RFV wx u z → Calls Try.prog 27 #[u] wx (RetV (.val (.tuple #[.agg #[.int .i64 p1, .int .i64 p2], .int .i64 er])) wx))) : Calls Try.prog 16 #[.agg #[.int .i64 t1, .int .i64 l1], .agg #[.int .i64 t2, .int .i64 l2]] w (Rt p1 p2 er w) := by
  go_enter Try.func16, Try.ntmps16
  go_upto_region 1 with fail
  obtain ⟨X, hX, hwX, hba, hbb, hW⟩ := nboxes3 w (.int .i64 t1) (.int .i64 l1) (.int .i64 t2) (.int .i64 l2)
  rw [hX]
  have HX : Hid (FB3 w (.int .i64 t1) (.int .i64 l1) (.int .i64 t2) (.int .i64 l2) X) := ⟨hwX, hba, hbb, hW⟩
  clear hX hwX hba hbb hW
  obtain ⟨k0, k1, -⟩ := HX.out.ba
  obtain ⟨j0, j1, -⟩ := HX.out.bb
  go_wp2_with fail
  (with_reducible refine (HAll.out _ X.heap.size (B4.new X _ _ _ _ _) (by simp)).mono ?_)
  rintro e w1 ⟨rfl, hB1⟩
  have HX1 := Lib.hid (HX.out.keep _ w1 ((below_alloc X _).trans (hB1.mono (by simp))))
  clear k0 k1 j0 j1 hB1 HX HAll
  go_upto_region 3 with fail
  refine wp_region_flow 7 [14, 15, 16, 17, 18, 19, 13] (fun i => if i = 6 then 13 else 14 + i) (FB3 w (.int .i64 t1) (.int .i64 l1) (.int .i64 t2) (.int .i64 l2)) (Spl [.val (.agg #[.int .i64 t1, .int .i64 l1]), .rat x, .val (.agg #[.int .i64 t2, .int .i64 l2]), .rat y, .val (.int .i64 q), .val (.bool false), .val (.bool false)]) (by kernel_rfl) (by kernel_rfl) (by kernel_rfl) (by kernel_rfl) (fun i j hi hj h => by have h : (if i = 6 then 13 else 14 + i) = (if j = 6 then 13 else 14 + j) := h; split at h <;> split at h <;> omega) (by decide) FB3.keep Spl.keep ?_ ?_ ?_
  · exact HX1.out.keep _ _ (Below.drew (Below.refl _ _))
  · intro i v wx o T' K ho hF hdep hin hout hK
    have hi : i < 7 := (Array.getElem?_eq_some_iff.1 ho).1
    have q14 := hin 14 (by decide)
    have q15 := hin 15 (by decide)
    have q16 := hin 16 (by decide)
    have q17 := hin 17 (by decide)
    have q18 := hin 18 (by decide)
    have q19 := hin 19 (by decide)
    have q13 := hin 13 (by decide)
    have sl2 : T'[2]? = some (.pointer (some ⟨w.heap.size, 0, none⟩)) := (hout 2 (by decide)).trans rfl
    have sl3 : T'[3]? = some (.pointer (some ⟨w.heap.size + 1, 0, none⟩)) := (hout 3 (by decide)).trans rfl
    clear hin hout
    have HF := Lib.hid hF
    have HD := Lib.hid hdep
    clear hF hdep
    rcases (by omega : i = 0 ∨ i = 1 ∨ i = 2 ∨ i = 3 ∨ i = 4 ∨ i = 5 ∨ i = 6) with rfl | rfl | rfl | rfl | rfl | rfl | rfl
    · obtain rfl := Option.some.inj ho
      obtain ⟨k0, k1, k2⟩ := HF.out.ba
      have hP := (rfl : Value.agg #[.int .i64 t1, .int .i64 l1] = .agg #[.int .i64 t1, .int .i64 l1])
      clear q14 q15 q16 q17 q18 q19 q13 sl3 ho hi
      go_simp
      exact hK _ _ (Below.refl _ _) hP
    · obtain rfl := Option.some.inj ho
      have e0 : v 14 = (.agg #[.int .i64 t1, .int .i64 l1]) := HD.out ⟨0, .data⟩ (by simp) rfl
      rw [e0] at q14
      clear q15 q16 q17 q18 q19 q13 sl2 sl3 ho hi
      go_simp
      (with_reducible refine (HTa.out _).mono ?_)
      rintro e w2 ⟨u, rfl, hu, hB⟩
      exact hK _ _ hB hu
    · obtain rfl := Option.some.inj ho
      obtain ⟨k0, k1, k2⟩ := HF.out.bb
      have hP := (rfl : Value.agg #[.int .i64 t2, .int .i64 l2] = .agg #[.int .i64 t2, .int .i64 l2])
      clear q14 q15 q16 q17 q18 q19 q13 sl2 ho hi
      go_simp
      exact hK _ _ (Below.refl _ _) hP
    · obtain rfl := Option.some.inj ho
      have e0 : v 16 = (.agg #[.int .i64 t2, .int .i64 l2]) := HD.out ⟨2, .data⟩ (by simp) rfl
      rw [e0] at q16
      clear q14 q15 q17 q18 q19 q13 sl2 sl3 ho hi
      go_simp
      (with_reducible refine (HTb.out _).mono ?_)
      rintro e w2 ⟨u, rfl, hu, hB⟩
      exact hK _ _ hB hu
    · obtain rfl := Option.some.inj ho
      have h0 : RFV wx (v 15) x := HD.out ⟨1, .data⟩ (by simp) rfl
      have h1 : RFV wx (v 17) y := HD.out ⟨3, .data⟩ (by simp) rfl
      clear q14 q16 q18 q19 q13 sl2 sl3 ho hi
      go_simp
      (with_reducible refine (HC.out _ _ _ h0 h1).mono ?_)
      rintro e w2 ⟨u, rfl, hu, hB⟩
      exact hK _ _ hB hu
    · obtain rfl := Option.some.inj ho
      have e0 : v 18 = (.int .i64 q) := HD.out ⟨4, .data⟩ (by simp) rfl
      rw [e0] at q18
      clear q14 q15 q16 q17 q19 q13 sl2 sl3 ho hi
      go_simp
      exact hK _ _ (Below.refl _ _) rfl
    · obtain rfl := Option.some.inj ho
      have e0 : v 19 = (.bool false) := HD.out ⟨5, .data⟩ (by simp) rfl
      rw [e0] at q19
      clear q14 q15 q16 q17 q18 q13 sl2 sl3 ho hi
      go_simp
      exact hK _ _ (Below.refl _ _) rfl
  · intro v wx hF hall
    have h13 : v 13 = .bool false := hall 6 (by decide)
    have HF := Lib.hid hF
    clear hF hall
    simp only [over, List.setIfInBounds_toArray, List.set_cons_zero, List.set_cons_succ]
    rw [h13]
    generalize v 14 = v14
    generalize v 15 = v15
    generalize v 16 = v16
    generalize v 17 = v17
    generalize v 18 = v18
    generalize v 19 = v19
    clear HC
    obtain ⟨k0, k1, -⟩ := HF.out.ba
    obtain ⟨j0, j1, -⟩ := HF.out.bb
    obtain ⟨⟨o1, o2, o3, o4⟩, o5, o6, -⟩ := HF.out.wc
    go_upto_region 9 with fail
    clear k0 k1 j0 j1 o3 o4 o5 o6
    refine wp_region_flow_put 11 5 (.int .i64 er) [43, 44, 45, 46, 47, 48, 49, 50, 51, 52, 53, 5] (fun i => 43 + i) (FB3 w (.int .i64 t1) (.int .i64 l1) (.int .i64 t2) (.int .i64 l2)) (fun wx => B2n (w.heap.size + 1 + 1) (.int .i64 p1) (.int .i64 p2) wx ∧ Below w.heap.size w wx) (fun v wx => v 53 = .int .i64 er ∧ B2n (w.heap.size + 1 + 1) (.int .i64 p1) (.int .i64 p2) wx ∧ Below w.heap.size w wx) (Spl [.val (.agg #[.int .i64 t2, .int .i64 l2]), .rat y, .rat ny, .val (.agg #[.int .i64 t1, .int .i64 l1]), .rat x, .rat nx, .rat r, .rat z, .val (.tuple #[.agg #[.int .i64 p1, .int .i64 p2], .int .i64 er]), .val (.agg #[.int .i64 p1, .int .i64 p2]), .val (.int .i64 er)]) (by kernel_rfl) (by kernel_rfl) (by kernel_rfl) (by kernel_rfl) (by kernel_rfl) (by kernel_rfl) (by decide) (fun i j _ _ h => Nat.add_left_cancel (show 43 + i = 43 + j from h)) (by decide) FB3.keep Spl.keep ?_ ?_ ?_ ?_ ?_
    · exact HF.out.keep _ _ (Below.drew (Below.refl _ _))
    · intro i v wx o T' K hi ho hF hdep hin hout hK
      have q43 := hin 43 (by decide)
      have q44 := hin 44 (by decide)
      have q45 := hin 45 (by decide)
      have q46 := hin 46 (by decide)
      have q47 := hin 47 (by decide)
      have q48 := hin 48 (by decide)
      have q49 := hin 49 (by decide)
      have q50 := hin 50 (by decide)
      have q51 := hin 51 (by decide)
      have q52 := hin 52 (by decide)
      have q53 := hin 53 (by decide)
      have sl2 : T'[2]? = some (.pointer (some ⟨w.heap.size, 0, none⟩)) := (hout 2 (by decide)).trans rfl
      have sl3 : T'[3]? = some (.pointer (some ⟨w.heap.size + 1, 0, none⟩)) := (hout 3 (by decide)).trans rfl
      have sl4 : T'[4]? = some (.pointer (some ⟨w.heap.size + 1 + 1, 0, none⟩)) := (hout 4 (by decide)).trans rfl
      clear hin hout
      have HF := Lib.hid hF
      have HD := Lib.hid hdep
      clear hF hdep
      rcases (by omega : i = 0 ∨ i = 1 ∨ i = 2 ∨ i = 3 ∨ i = 4 ∨ i = 5 ∨ i = 6 ∨ i = 7 ∨ i = 8 ∨ i = 9 ∨ i = 10) with rfl | rfl | rfl | rfl | rfl | rfl | rfl | rfl | rfl | rfl | rfl
      · obtain rfl := Option.some.inj ho
        obtain ⟨k0, k1, k2⟩ := HF.out.bb
        have hP := (rfl : Value.agg #[.int .i64 t2, .int .i64 l2] = .agg #[.int .i64 t2, .int .i64 l2])
        clear q43 q44 q45 q46 q47 q48 q49 q50 q51 q52 q53 sl2 sl4 ho hi
        go_simp
        exact hK _ _ (Below.refl _ _) hP
      · obtain rfl := Option.some.inj ho
        have e0 : v 43 = (.agg #[.int .i64 t2, .int .i64 l2]) := HD.out ⟨0, .data⟩ (by simp) rfl
        rw [e0] at q43
        clear q44 q45 q46 q47 q48 q49 q50 q51 q52 q53 sl2 sl3 sl4 ho hi
        go_simp
        (with_reducible refine (HTb.out _).mono ?_)
        rintro e w2 ⟨u, rfl, hu, hB⟩
        exact hK _ _ hB hu
      · obtain rfl := Option.some.inj ho
        have h0 : RFV wx (v 44) y := HD.out ⟨1, .data⟩ (by simp) rfl
        clear q43 q45 q46 q47 q48 q49 q50 q51 q52 q53 sl2 sl3 sl4 ho hi
        go_simp
        (with_reducible refine (HMy.out _ _ h0).mono ?_)
        rintro e w2 ⟨u, rfl, hu, hB⟩
        exact hK _ _ hB hu
      · obtain rfl := Option.some.inj ho
        obtain ⟨k0, k1, k2⟩ := HF.out.ba
        have hP := (rfl : Value.agg #[.int .i64 t1, .int .i64 l1] = .agg #[.int .i64 t1, .int .i64 l1])
        clear q43 q44 q45 q46 q47 q48 q49 q50 q51 q52 q53 sl3 sl4 ho hi
        go_simp
        exact hK _ _ (Below.refl _ _) hP
      · obtain rfl := Option.some.inj ho
        have e0 : v 46 = (.agg #[.int .i64 t1, .int .i64 l1]) := HD.out ⟨3, .data⟩ (by simp) rfl
        rw [e0] at q46
        clear q43 q44 q45 q47 q48 q49 q50 q51 q52 q53 sl2 sl3 sl4 ho hi
        go_simp
        (with_reducible refine (HTa.out _).mono ?_)
        rintro e w2 ⟨u, rfl, hu, hB⟩
        exact hK _ _ hB hu
      · obtain rfl := Option.some.inj ho
        have h0 : RFV wx (v 47) x := HD.out ⟨4, .data⟩ (by simp) rfl
        clear q43 q44 q45 q46 q48 q49 q50 q51 q52 q53 sl2 sl3 sl4 ho hi
        go_simp
        (with_reducible refine (HMx.out _ _ h0).mono ?_)
        rintro e w2 ⟨u, rfl, hu, hB⟩
        exact hK _ _ hB hu
      · obtain rfl := Option.some.inj ho
        have h0 : RFV wx (v 45) ny := HD.out ⟨2, .data⟩ (by simp) rfl
        have h1 : RFV wx (v 48) nx := HD.out ⟨5, .data⟩ (by simp) rfl
        clear q43 q44 q46 q47 q49 q50 q51 q52 q53 sl2 sl3 sl4 ho hi
        go_simp
        (with_reducible refine (HS.out _ _ _ h0 h1).mono ?_)
        rintro e w2 ⟨u, rfl, hu, hB⟩
        exact hK _ _ hB hu
      · obtain rfl := Option.some.inj ho
        have h0 : RFV wx (v 49) r := HD.out ⟨6, .data⟩ (by simp) rfl
        clear q43 q44 q45 q46 q47 q48 q50 q51 q52 q53 sl2 sl3 sl4 ho hi
        go_simp
        (with_reducible refine (HMr.out _ _ h0).mono ?_)
        rintro e w2 ⟨u, rfl, hu, hB⟩
        exact hK _ _ hB hu
      · obtain rfl := Option.some.inj ho
        have h0 : RFV wx (v 50) z := HD.out ⟨7, .data⟩ (by simp) rfl
        clear q43 q44 q45 q46 q47 q48 q49 q51 q52 q53 sl2 sl3 sl4 ho hi
        go_simp
        (with_reducible refine (HN.out _ _ h0).mono ?_)
        rintro e w2 ⟨u, rfl, hu, hB⟩
        exact hK _ _ hB hu
      · obtain rfl := Option.some.inj ho
        have e0 : v 51 = (.tuple #[.agg #[.int .i64 p1, .int .i64 p2], .int .i64 er]) := HD.out ⟨8, .data⟩ (by simp) rfl
        rw [e0] at q51
        clear q43 q44 q45 q46 q47 q48 q49 q50 q52 q53 sl2 sl3 sl4 ho hi
        go_simp
        exact hK _ _ (Below.refl _ _) rfl
      · obtain rfl := Option.some.inj ho
        have e0 : v 51 = (.tuple #[.agg #[.int .i64 p1, .int .i64 p2], .int .i64 er]) := HD.out ⟨8, .data⟩ (by simp) rfl
        rw [e0] at q51
        clear q43 q44 q45 q46 q47 q48 q49 q50 q52 q53 sl2 sl3 sl4 ho hi
        go_simp
        exact hK _ _ (Below.refl _ _) rfl
    · intro v wx o T' K ho hF hall hin hout hK
      obtain rfl := Option.some.inj ho
      have sl4 : T'[4]? = some (.pointer (some ⟨w.heap.size + 1 + 1, 0, none⟩)) := (hout 4 (by decide)).trans rfl
      have q52 := hin 52 (by decide)
      have h0 : v 52 = (.agg #[.int .i64 p1, .int .i64 p2]) := hall 9 (by decide)
      have h1 : v 53 = .int .i64 er := hall 10 (by decide)
      clear hin hout hall ho
      have h9 : v 53 = .int .i64 er := h1
      rw [h0] at q52
      have HR : Hid (B2n (w.heap.size + 1 + 1) (.int .i64 p1) (.int .i64 p2) (st2 wx (w.heap.size + 1 + 1) (.int .i64 p1) (.int .i64 p2)) ∧ Below w.heap.size w (st2 wx (w.heap.size + 1 + 1) (.int .i64 p1) (.int .i64 p2))) := ⟨(hF.wc.put _ _).1, st2_below hF.below (Nat.le_trans (Nat.le_succ _) (Nat.le_succ _)) _ _⟩
      obtain ⟨⟨o1, o2, o3, o4⟩, o5, o6, -⟩ := hF.wc
      clear h0 hF
      go_simp
      exact hK _ ⟨h9, HR.out⟩
    · intro v wx o T' K ho hM hin hout hK
      obtain rfl := Option.some.inj ho
      have q53 := hin 53 (by decide)
      rw [hM.1] at q53
      clear hin hout ho
      go_simp
      exact hK _ hM.2
    · intro v wx hV hE
      obtain ⟨⟨k0, k1, -⟩, hB⟩ := hE
      have HB := Lib.hid hB
      clear hB
      simp only [over, List.setIfInBounds_toArray, List.set_cons_zero, List.set_cons_succ]
      rw [hV]
      generalize v 43 = v43
      generalize v 44 = v44
      generalize v 45 = v45
      generalize v 46 = v46
      generalize v 47 = v47
      generalize v 48 = v48
      generalize v 49 = v49
      generalize v 50 = v50
      generalize v 51 = v51
      generalize v 52 = v52
      generalize v 53 = v53
      go_wp2_with fail
      exact bodyPost_ret (v := .tuple #[.agg #[.int .i64 p1, .int .i64 p2], .int .i64 er]) (by simp [results, Try.results16, go_sem, k0, k1]) rfl ⟨rfl, HB.out⟩

end Go.Proofs.Ytjoanclnaeephaa

namespace Go.Proofs.Ytjoanclnaeephaa
open Go.RowKit

theorem num_fits {r : Rat} (h : vld r.num (r.den : Int) = true) : Hid (∀ wx u, RFV wx u r → Calls Try.prog 27 #[u] wx (RetV (.val (.tuple #[.agg #[.int .i64 r.num, .int .i64 (r.den : Int)], .int .i64 0])) wx)) := fun wx u k => by
  obtain ⟨a1, a2⟩ := vld_le h
  have e3 : Bs ^ 3 = 1237940039285380274899124224 := by decide
  have := rv_num 3 k (by decide) ⟨by omega, by omega⟩
  have e : outN r = .tuple #[.agg #[.int .i64 r.num, .int .i64 (r.den : Int)], .int .i64 0] := if_pos ⟨by rw [MaxN_eq]; exact a1, by rw [MaxN_eq]; exact a2⟩
  rw [e] at this
  refine this.mono ?_
  rintro e w' ⟨rfl, hB⟩
  exact ⟨_, rfl, rfl, hB⟩

theorem rto {x : Rat} (h : vld x.num (x.den : Int) = true) : Hid (∀ wx, Calls Try.prog 18 #[.agg #[.int .i64 x.num, .int .i64 (x.den : Int)]] wx (RetV (.rat x) wx)) := fun wx => rv_to x wx (vld_le h).1 (vld_le h).2
theorem rcmp {x y : Rat} (h : vld x.num (x.den : Int) = true) (h' : vld y.num (y.den : Int) = true) : Hid (∀ wx u u', RFV wx u x → RFV wx u' y → Calls Try.prog 19 #[u, u'] wx (RetV (.val (.int .i64 (sgnI (x - y).num))) wx)) := fun wx u u' k1 k2 => by
  obtain ⟨a1, a2⟩ := vld_le h
  obtain ⟨b1, b2⟩ := vld_le h'
  have e3 : Bs ^ 3 = 1237940039285380274899124224 := by decide
  exact rv_compare 3 k1 k2 (by decide) ⟨by omega, by omega⟩ ⟨by omega, by omega⟩
theorem rneg {x : Rat} (h : x.num.natAbs ≤ 1152921504606846976) : Hid (∀ wx u, RFV wx u x → Calls Try.prog 45 #[u] wx (RetV (.rat (-x)) wx)) := fun wx u k => rv_minus 3 k (by decide) (by
  have e3 : Bs ^ 3 = 1237940039285380274899124224 := by decide
  omega)

theorem rbtw_any (t1 l1 t2 l2 : Int) (w : World) : Calls Try.prog 16 #[.agg #[.int .i64 t1, .int .i64 l1], .agg #[.int .i64 t2, .int .i64 l2]] w (Rt (btwT t1 l1 t2 l2).1 (btwT t1 l1 t2 l2).2.1 (btwT t1 l1 t2 l2).2.2 w) := by
  have HAll : ∀ b, (vld t1 l1 && vld t2 l2) = b → Hid (∀ wx g, B4 g (.int .i64 t1) (.int .i64 l1) (.int .i64 t2) (.int .i64 l2) wx → g < wx.heap.size → Calls Try.prog 43 #[.slice (some ⟨g, 0, none⟩) 2 2] wx fun e w' => e = .returned (.bool b) ∧ Below wx.heap.size wx w') := fun b hb wx g h hz => by
    rw [← hb]
    exact rall2 g t1 l1 t2 l2 _ _ wx h hz (Lib.hid fun wx => rvalid_any t1 l1 wx) (Lib.hid fun wx => rvalid_any t2 l2 wx)
  by_cases hv : (vld t1 l1 && vld t2 l2) = true
  · have HA := HAll true hv
    obtain ⟨v1, v2⟩ := Bool.and_eq_true_iff.1 hv
    obtain ⟨x, rfl, rfl, -⟩ := vld_rat v1
    obtain ⟨y, rfl, rfl, -⟩ := vld_rat v2
    obtain ⟨a1, a2⟩ := vld_le v1
    obtain ⟨c1, c2⟩ := vld_le v2
    have hxd := x.den_nz
    have hyd := y.den_nz
    have es : decide (0 < sgnI (x - y).num) = decide (y.num * (x.den : Int) < x.num * (y.den : Int)) := by
      rw [sgn_sub]
      unfold sgnR
      rw [sgnI_pos]
      refine decide_eq_decide.2 ⟨fun h => by omega, fun h => by omega⟩
    by_cases hr : y.num * (x.den : Int) < x.num * (y.den : Int)
    · have e : btwT x.num x.den y.num y.den = (0, 0, 6) := by unfold btwT; rw [if_pos hv, if_pos hr]
      rw [e]
      rw [decide_eq_true hr] at es
      exact rbtw_range _ _ _ _ _ x y w es HA (rto v1) (rto v2) (rcmp v1 v2)
    · rw [decide_eq_false hr] at es
      have hL := btw_least x.num x.den y.num y.den
      by_cases hp : 0 < x.num
      · obtain ⟨a, ha⟩ := Int.eq_ofNat_of_zero_le (show 0 ≤ x.num by omega)
        have hb : 0 ≤ y.num := by
          rcases (show y.num < 0 ∨ 0 ≤ y.num by omega) with hb | hb
          · have h3 : 0 < x.num * (y.den : Int) := Int.mul_pos hp (by omega)
            have h4 : y.num * (x.den : Int) ≤ 0 := Int.mul_nonpos_of_nonpos_of_nonneg (by omega) (by omega)
            omega
          · exact hb
        obtain ⟨b, hb⟩ := Int.eq_ofNat_of_zero_le hb
        have hab : a * y.den ≤ b * x.den := by
          rw [ha, hb] at hr
          have : (a : Int) * (y.den : Int) ≤ (b : Int) * (x.den : Int) := by omega
          exact_mod_cast this
        have e : btwT x.num x.den y.num y.den = (((simpN (x.den + y.den) a x.den b y.den).1 : Int), ((simpN (x.den + y.den) a x.den b y.den).2 : Int), 0) := by
          unfold btwT
          rw [if_pos hv, if_neg hr, if_pos hp, ha, hb]
          simp only [Int.toNat_natCast]
        have B := simpN_best (x.den + y.den) a x.den b y.den (Nat.le_refl _) (by omega) (by omega) (by omega) hab
        obtain ⟨r, r1, r2⟩ := rat_of_parts ((simpN (x.den + y.den) a x.den b y.den).1 : Int) (simpN (x.den + y.den) a x.den b y.den).2 (by have := B.pos2; omega) (by rw [Int.natAbs_natCast]; exact B.cop)
        have hvr : vld r.num (r.den : Int) = true := by
          have h0 := (hL (by rw [e])).2.2.vd
          rw [e] at h0
          rw [r1, r2]
          exact h0
        rw [e]
        have HN := num_fits hvr
        rw [r1, r2] at HN
        exact rbtw_pos _ _ _ _ _ _ _ _ x y r w es (decide_eq_false (by omega)) (decide_eq_true hp) HA (rto v1) (rto v2) (rcmp v1 v2)
          (Lib.hid fun wx u u' k1 k2 => rsimp_any (x.den + y.den) a x.den b y.den x y r u u' wx (Nat.le_refl _) (by omega) (by omega) (by omega) hab (by omega) a2 (by omega) c2 ha rfl hb rfl r1 r2 k1 k2) HN
      · by_cases hn : y.num < 0
        · obtain ⟨a, ha⟩ := Int.eq_ofNat_of_zero_le (show 0 ≤ -y.num by omega)
          obtain ⟨b, hb⟩ := Int.eq_ofNat_of_zero_le (show 0 ≤ -x.num by omega)
          have hab : a * x.den ≤ b * y.den := by
            have : (a : Int) * (x.den : Int) ≤ (b : Int) * (y.den : Int) := by
              rw [← ha, ← hb, Int.neg_mul, Int.neg_mul]
              omega
            exact_mod_cast this
          have e : btwT x.num x.den y.num y.den = (-((simpN (y.den + x.den) a y.den b x.den).1 : Int), ((simpN (y.den + x.den) a y.den b x.den).2 : Int), 0) := by
            unfold btwT
            rw [if_pos hv, if_neg hr, if_neg hp, if_pos hn, ha, hb]
            simp only [Int.toNat_natCast]
          have B := simpN_best (y.den + x.den) a y.den b x.den (Nat.le_refl _) (by omega) (by omega) (by omega) hab
          obtain ⟨r, r1, r2⟩ := rat_of_parts ((simpN (y.den + x.den) a y.den b x.den).1 : Int) (simpN (y.den + x.den) a y.den b x.den).2 (by have := B.pos2; omega) (by rw [Int.natAbs_natCast]; exact B.cop)
          have hvr : vld (-r).num ((-r).den : Int) = true := by
            have h0 := (hL (by rw [e])).2.2.vd
            rw [e] at h0
            rw [rat_neg_num, rat_neg_den, r1, r2]
            exact h0
          have hrb : r.num.natAbs ≤ 1152921504606846976 := by
            have := (vld_le hvr).1
            rw [rat_neg_num, Int.natAbs_neg] at this
            exact this
          rw [e]
          have HN := num_fits hvr
          rw [rat_neg_num, rat_neg_den, r1, r2] at HN
          exact rbtw_neg _ _ _ _ _ _ _ _ x y (-x) (-y) r (-r) w es (decide_eq_true (by omega)) (decide_eq_false (by omega)) (decide_eq_false hp) HA (rto v1) (rto v2) (rcmp v1 v2) (rneg c1) (rneg a1)
            (Lib.hid fun wx u u' k1 k2 => rsimp_any (y.den + x.den) a y.den b x.den (-y) (-x) r u u' wx (Nat.le_refl _) (by omega) (by omega) (by omega) hab (by omega) c2 (by omega) a2 (by rw [rat_neg_num]; exact ha) rfl (by rw [rat_neg_num]; exact hb) rfl r1 r2 k1 k2) (rneg hrb) HN
        · have e : btwT x.num x.den y.num y.den = (0, 1, 0) := by unfold btwT; rw [if_pos hv, if_neg hr, if_neg hp, if_neg hn]
          rw [e]
          exact rbtw_zero _ _ _ _ _ x y w es (decide_eq_true (by omega)) (decide_eq_true (by omega)) HA (rto v1) (rto v2) (rcmp v1 v2)
  · have e : btwT t1 l1 t2 l2 = (0, 0, 1) := if_neg hv
    rw [e]
    exact rbtw_err t1 l1 t2 l2 w (HAll false (by simpa using hv))

end Go.Proofs.Ytjoanclnaeephaa

namespace Go.Proofs.Ytjoanclnaeephaa
open Go.RowKit

set_option maxRecDepth 100000 in
set_option maxHeartbeats 4000000 in
theorem between_walk (ta la tb lb p1 p2 e1 : Int) (w : World)
    (H1 : Hid (∀ wx, Calls Try.prog 15 #[.agg #[.int .i64 ta, .int .i64 la], .agg #[.int .i64 tb, .int .i64 lb]] wx (Rt p1 p2 e1 wx)))
    (H2 : Hid (∀ wx, Calls Try.prog 16 #[.agg #[.int .i64 ta, .int .i64 la], .agg #[.int .i64 tb, .int .i64 lb]] wx (Rt p1 p2 e1 wx))) :
    Calls Try.prog 5 #[.agg #[.int .i64 ta, .int .i64 la], .agg #[.int .i64 tb, .int .i64 lb]] w fun e w' => e = .returned (.bool true) ∧ Below w.heap.size w w' := by
  go_enter Try.func5, Try.ntmps5
  go_upto_region 1 with fail
  generalize hX : (w.alloc (.cells #[.int .i64 ta, .int .i64 la] 23)).alloc (.cells #[.int .i64 tb, .int .i64 lb] 23) = X
  have HS : Hid (Below w.heap.size w X) := by
    subst hX
    exact ((Below.refl _ _).alloc (Nat.le_refl _) _).alloc (by simp) _
  have HX : Hid (Bxs X [(w.heap.size, ta, la), (w.heap.size + 1, tb, lb)]) := by
    subst hX
    exact Bxs.two w ta la tb lb
  clear hX
  obtain ⟨k0a, k0b, k0c, k0d, -⟩ : N2 X (w.heap.size) ta la := HX.out.1 0 _ rfl
  obtain ⟨k1a, k1b, k1c, k1d, -⟩ : N2 X (w.heap.size + 1) tb lb := HX.out.1 1 _ rfl
  go_wp2_with fail
  (with_reducible refine (H1.out _).mono ?_)
  rintro e w1 ⟨rfl, hB⟩
  clear k0a k0b k0c k0d k1a k1b k1c k1d
  have HXn := Lib.hid (HX.out.keep hB)
  have HSn := Lib.hid (stepB HS.out hB)
  clear hB HX HS
  have HX := HXn
  have HS := HSn
  clear HXn HSn
  go_upto_region 2 with fail
  have HG2 := Lib.hid HS.out.size
  generalize hY : w1.alloc (.cells #[.int .i64 p1, .int .i64 p2] 23) = Y1
  have HXn : Hid (Bxs Y1 [(w.heap.size, ta, la), (w.heap.size + 1, tb, lb), (w1.heap.size, p1, p2)]) := by
    subst hY
    exact HX.out.new p1 p2
  have HSn : Hid (Below w.heap.size w Y1) := by
    subst hY
    exact HS.out.alloc HS.out.size _
  clear hY HX HS
  have HX := HXn
  have HS := HSn
  clear HXn HSn
  obtain ⟨k0a, k0b, k0c, k0d, -⟩ : N2 Y1 (w.heap.size) ta la := HX.out.1 0 _ rfl
  obtain ⟨k1a, k1b, k1c, k1d, -⟩ : N2 Y1 (w.heap.size + 1) tb lb := HX.out.1 1 _ rfl
  go_wp2_with fail
  (with_reducible refine (H2.out _).mono ?_)
  rintro e w2 ⟨rfl, hB⟩
  clear k0a k0b k0c k0d k1a k1b k1c k1d
  have HXn := Lib.hid (HX.out.keep hB)
  have HSn := Lib.hid (stepB HS.out hB)
  clear hB HX HS
  have HX := HXn
  have HS := HSn
  clear HXn HSn
  go_upto_region 3 with fail
  have HG3 := Lib.hid HS.out.size
  generalize hY : w2.alloc (.cells #[.int .i64 p1, .int .i64 p2] 23) = Y2
  have HXn : Hid (Bxs Y2 [(w.heap.size, ta, la), (w.heap.size + 1, tb, lb), (w1.heap.size, p1, p2), (w2.heap.size, p1, p2)]) := by
    subst hY
    exact HX.out.new p1 p2
  have HSn : Hid (Below w.heap.size w Y2) := by
    subst hY
    exact HS.out.alloc HS.out.size _
  clear hY HX HS
  have HX := HXn
  have HS := HSn
  clear HXn HSn
  obtain ⟨k2a, k2b, k2c, k2d, -⟩ : N2 Y2 (w1.heap.size) p1 p2 := HX.out.1 2 _ rfl
  obtain ⟨k3a, k3b, k3c, k3d, -⟩ : N2 Y2 (w2.heap.size) p1 p2 := HX.out.1 3 _ rfl
  go_wp2_with fail
  (with_reducible refine (awake_any _).mono ?_)
  rintro e wa ⟨rfl, hB⟩
  have hb := stepB HS.out hB
  clear hB HX HS
  go_wp2_with fail
  go_ret
  exact ⟨rfl, hb⟩

theorem between_any (ta la tb lb : Int) (w : World) :
    Calls Try.prog 5 #[.agg #[.int .i64 ta, .int .i64 la], .agg #[.int .i64 tb, .int .i64 lb]] w fun e w' => e = .returned (.bool true) ∧ Below w.heap.size w w' :=
  between_walk ta la tb lb _ _ _ w (Lib.hid fun wx => btw_any ta la tb lb wx) (Lib.hid fun wx => rbtw_any ta la tb lb wx)

end Go.Proofs.Ytjoanclnaeephaa
