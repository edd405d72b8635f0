/- The division of lists of digits of the reference in memory: all sizes. -/
import Derived.Test.YtmfnpipmbpnfbaaGreatDoorF17
import Derived.Test.YtmfnpipmbpnfbaaGreatDoorF16
import Derived.Deep.RegionWith
import Derived.BigRegion
import Derived.RegionTactic
import Derived.Orders
import Derived.KernelRfl

set_option maxRecDepth 100000
set_option maxHeartbeats 40000000
namespace Go.Proofs.YtmfnpipmbpnfbaaGreatDoor
open Go.RowKit
theorem divided_one (A B : Option Addr) (n ca cb : Nat) (la lb : List Nat) (w : World) (hn : n ≤ 250000) (hla : la.length = n) (hlb : lb.length = 1) (hA : Lc w A la) (hB : Lc w B lb) (hda : Dl la) (hdb : Dl lb) (hzb : Nz lb) :
    Calls Tryz.prog 190 #[.slice A n ca, .slice B 1 cb] w (RetDv (val la) (val lb) w) := by
  obtain ⟨x, rfl⟩ : ∃ x, lb = [x] := List.length_eq_one_iff.1 hlb
  have hx0 : 0 < x := by have := top_pos hzb (by simp); simpa using this
  have hx1 : x < 1073741824 := by have := hdb x (by simp); rw [Bs_eq] at this; exact this
  obtain ⟨b, off, rfl, -, hcells⟩ := hB (by simp)
  have hc := hcells 0 (by simp)
  have hc0 : w.cell? ⟨b, off, none⟩ = some (.int .i64 (x : Int)) := by simpa using hc
  have HS : Hid (Calls Tryz.prog 222 #[.slice A n ca, .int .i64 (x : Int)] w (RetSh la x w)) := sho_any A n ca x la w (by omega) hx0 (by omega) hla hA hda
  have HV : Hid (val [x] = x) := val_one x
  have HLA := Lib.hid hla
  have HX0 := Lib.hid hx0
  rw [HV.out]
  clear hcells hc hlb hA hB hda hdb hzb hla
  go_enter Tryz.func190, Tryz.ntmps190
  go_wp2_with fail
  (with_reducible refine HS.out.mono ?_)
  rintro e w1 ⟨v, q, r, rfl, hv, hql, hval, hr, hB⟩
  have HR : Hid (RetDv (val la) x w (.returned (.tuple #[v, .slice (some ⟨w1.heap.size, 0, none⟩) 1 1])) (w1.alloc (.cells #[.int .i64 (r : Int)] 3))) :=
    ⟨v, _, q, [r], rfl, hv.keep (below_alloc w1 _), (Own.lit w1 (Nat.le_refl _) rfl).ls (Dl.nil.snoc (d := r) (by rw [Bs_eq]; omega)), by rw [val_one]; exact hval, by rw [val_one]; exact hr, by rw [hql, HLA.out]; omega, by simp, hB.alloc hB.size _⟩
  clear hv hql hval hr hB
  go_wp2_with fail
  go_ret2
  exact HR.out
theorem divided_less (A B : Option Addr) (n m ca cb : Nat) (la lb : List Nat) (w : World) (hn : n ≤ 250000) (hc : n ≤ ca ∧ ca ≤ 9223372036854775807) (hm2 : 2 ≤ m) (hla : la.length = n) (hlb : lb.length = m) (hA : Lc w A la) (hB : Lc w B lb) (hda : Dl la) (hdb : Dl lb) (hza : Nz la) (hzb : Nz lb) (hlt : val la < val lb) :
    Calls Tryz.prog 190 #[.slice A n ca, .slice B m cb] w (RetDv (val la) (val lb) w) := by
  have HC : Hid (Calls Tryz.prog 156 #[.slice A n ca, .slice B m cb] w fun e w' => e = .returned (.int .i64 (-1)) ∧ Drn w w') := by
    have h := rcmp_any A B n m ca cb la lb w (by omega) hla hlb hA hB hda hdb hza hzb
    rw [cmpN_lt hlt] at h
    exact h
  have g1 : ((m : Int) == 1) = false := by rw [beq_eq_false_iff_ne]; omega
  have HR : Hid (∀ w', Drn w w' → RetDv (val la) (val lb) w (.returned (.tuple #[.slice none 0 0, .slice A n ca])) w') := fun w' hd =>
    ⟨_, _, [], la, rfl, ⟨none, 0, rfl, ⟨Nat.le_refl _, Nat.zero_le _⟩, Dl.nil, Lc.nil w' _⟩, ⟨A, ca, by rw [hla], by rw [hla]; exact hc, hda, hd.lc hA⟩, by simp [val], hlt, by simp, by omega, hd.below _⟩
  clear hla hlb hA hB hda hdb hza hzb hlt hc
  go_enter Tryz.func190, Tryz.ntmps190
  go_wp2_with fail
  (with_reducible refine HC.out.mono ?_)
  rintro e w1 ⟨rfl, hdr⟩
  have HD := Lib.hid hdr
  clear hdr
  go_wp2_with fail
  go_ret2
  exact HR.out _ HD.out
theorem divided_any (A B : Option Addr) (n m ca cb : Nat) (la lb : List Nat) (w : World) (hn : n ≤ 250000) (hc : n ≤ ca ∧ ca ≤ 9223372036854775807) (hm : 0 < m) (hla : la.length = n) (hlb : lb.length = m) (hA : Lc w A la) (hB : Lc w B lb) (hda : Dl la) (hdb : Dl lb) (hza : Nz la) (hzb : Nz lb) :
    Calls Tryz.prog 190 #[.slice A n ca, .slice B m cb] w (RetDv (val la) (val lb) w) := by
  by_cases h1 : m = 1
  · subst h1
    exact divided_one A B n ca cb la lb w hn hla hlb hA hB hda hdb hzb
  · rcases Nat.lt_or_ge (val la) (val lb) with h2 | h2
    · exact divided_less A B n m ca cb la lb w hn hc (by omega) hla hlb hA hB hda hdb hza hzb h2
    · have hmn := len_le_of_val hda hzb h2
      exact divided_long A B n m (n + 1 - m) ca cb la lb w hn (by omega) (by omega) hla hlb hA hB hda hdb hza hzb h2
def RetII (z z' : Int) (w : World) (e : Ending) (w' : World) : Prop :=
  ∃ s neg A n c s' neg' A' n' c', e = .returned (.tuple #[.agg #[.int .i64 s, .bool neg, .slice A n c], .agg #[.int .i64 s', .bool neg', .slice A' n' c']]) ∧ RI w' s neg A n c z ∧ RI w' s' neg' A' n' c' z' ∧ Below w.heap.size w w'
theorem RI.drn {w w' : World} {s : Int} {neg : Bool} {A : Option Addr} {n c : Nat} {z : Int} (h : RI w s neg A n c z) (hd : Drn w w') : RI w' s neg A n c z := by obtain ⟨q, rfl⟩ := hd; exact h
theorem retII_box {s z s' z' : Int} {neg neg' : Bool} {A A' : Option Addr} {n c n' c' g g' : Nat} {w w1 wf : World} (h : RI w1 s neg A n c z) (h' : RI w1 s' neg' A' n' c' z') (hx : Bx w1 g 84) (hx' : Bx w1 g' 84) (hB : Below w.heap.size w w1) (hg : w.heap.size ≤ g) (hg' : w.heap.size ≤ g')
    (hw : Drn ((((((w1.setCell ⟨g, 0, none⟩ (.int .i64 s)).setCell ⟨g, 1, none⟩ (.bool neg)).setCell ⟨g, 2, none⟩ (.slice A n c)).setCell ⟨g', 0, none⟩ (.int .i64 s')).setCell ⟨g', 1, none⟩ (.bool neg')).setCell ⟨g', 2, none⟩ (.slice A' n' c')) wf) :
    RetII z z' w (.returned (.tuple #[.agg #[.int .i64 s, .bool neg, .slice A n c], .agg #[.int .i64 s', .bool neg', .slice A' n' c']])) wf := by
  have k1 : ∀ {t b B m d x}, RI w1 t b B m d x → RI wf t b B m d x := fun k =>
    ((((((k.set hx (by decide) _ _).set (hx.set _ _ _) (by decide) _ _).set ((hx.set _ _ _).set _ _ _) (by decide) _ _).set (((hx'.set _ _ _).set _ _ _).set _ _ _) (by decide) _ _).set ((((hx'.set _ _ _).set _ _ _).set _ _ _).set _ _ _) (by decide) _ _).set (((((hx'.set _ _ _).set _ _ _).set _ _ _).set _ _ _).set _ _ _) (by decide) _ _).drn hw
  exact ⟨s, neg, A, n, c, s', neg', A', n', c', rfl, k1 h, k1 h', ((((((hB.setCell hg _).setCell hg _).setCell hg _).setCell hg' _).setCell hg' _).setCell hg' _).trans (hw.below _)⟩
theorem boxesII (w : World) (p q r p' q' r' : Value) : ∃ X, (((w.alloc (.cells #[p, q, r] 84)).alloc (.cells #[p', q', r'] 84)).alloc (.cells #[.int .i64 0, .bool false, .slice none 0 0] 84)).alloc (.cells #[.int .i64 0, .bool false, .slice none 0 0] 84) = X ∧
    Below w.heap.size w X ∧ X.heap.size = w.heap.size + 4 ∧ B3 w.heap.size p q r X ∧ B3 (w.heap.size + 1) p' q' r' X ∧ W3 (w.heap.size + 1 + 1) X ∧ W3 (w.heap.size + 1 + 1 + 1) X :=
  ⟨_, rfl, ((((Below.refl _ _).alloc (Nat.le_refl _) _).alloc (by simp) _).alloc (by simp; omega) _).alloc (by simp; omega) _, by simp, by simp [B3, go_sem], by simp [B3, go_sem], (W3.new _ _ _ _ (by simp)).keep (below_alloc _ _), W3.new _ _ _ _ (by simp)⟩
theorem rover_small (s s' : Int) (A A' : Option Addr) (c c' : Nat) (w : World) (h : s.natAbs < Edge) (h0 : s' ≠ 0) :
    Calls Tryz.prog 153 #[.agg #[.int .i64 s, .bool false, .slice A 0 c], .agg #[.int .i64 s', .bool false, .slice A' 0 c']] w (RetII (s.tdiv s') (s.tmod s') w) := by
  have hq1 : (s.tdiv s').natAbs < Edge := by rw [Int.natAbs_tdiv]; exact Nat.lt_of_le_of_lt (Nat.div_le_self _ _) h
  have hr1 : (s.tmod s').natAbs < Edge := by rw [Int.natAbs_tmod]; exact Nat.lt_of_le_of_lt (Nat.mod_le _ _) h
  rw [Edge_eq] at hq1 hr1
  obtain ⟨q, hq⟩ : ∃ q, s.tdiv s' = q := ⟨_, rfl⟩
  obtain ⟨r, hr⟩ : ∃ r, s.tmod s' = r := ⟨_, rfl⟩
  rw [hq] at hq1 ⊢
  rw [hr] at hr1 ⊢
  have w1 : IntKind.i64.wrap q = q := IntWalk.i64_in _ (by omega)
  have w2 : IntKind.i64.wrap r = r := IntWalk.i64_in _ (by omega)
  have g0 : (s' == 0) = false := by rw [beq_eq_false_iff_ne]; exact h0
  have HQ := Lib.hid hq1
  have HR := Lib.hid hr1
  clear h hq1 hr1
  go_enter Tryz.func153, Tryz.ntmps153
  go_upto_region 1 with fail
  obtain ⟨X, hX, hwX, hsX, ⟨k0, k1, k2, za⟩, ⟨j0, j1, j2, zb⟩, hW, hW'⟩ := boxesII w (.int .i64 s) (.bool false) (.slice A 0 c) (.int .i64 s') (.bool false) (.slice A' 0 c')
  rw [hX]
  clear hX
  have HwX := Lib.hid hwX
  have HWB := Lib.hid (And.intro hW.2.2.2.2 hW'.2.2.2.2)
  obtain ⟨⟨p0, p1, p2, p3, p4, p5⟩, p6, p7, p8, -⟩ := hW
  obtain ⟨⟨r0, r1, r2, r3, r4, r5⟩, r6, r7, r8, -⟩ := hW'
  clear hsX hwX
  go_upto_region 2 with fail
  go_region_with fail
  all_goals go_wp2_with fail
  all_goals exact bodyPost_ret (v := .tuple #[.agg #[.int .i64 q, .bool false, .slice none 0 0], .agg #[.int .i64 r, .bool false, .slice none 0 0]]) (by simp [results, Tryz.results153, go_sem, *]) rfl (retII_box (RI.small X (by rw [Edge_eq]; exact HQ.out) none 0 (Nat.zero_le _)) (RI.small X (by rw [Edge_eq]; exact HR.out) none 0 (Nat.zero_le _)) HWB.out.1 HWB.out.2 HwX.out (by omega) (by omega) (by first | exact ⟨0, rfl⟩ | exact ⟨1, rfl⟩ | exact ⟨2, rfl⟩))
end Go.Proofs.YtmfnpipmbpnfbaaGreatDoor
namespace Go.Proofs.YtmfnpipmbpnfbaaGreatDoor
open Go
section
variable {P : Program} {ops : Array Oper} {Q : Exit → Act → World → Prop} {md : Region.Mode}
def lacks (ops : Array Oper) (listed : Array Bool) : Nat := (List.range ops.size).countP fun i => !listed.getD i true
theorem countP_lt {α : Type} {p q : α → Bool} : ∀ (l : List α), (∀ x ∈ l, q x = true → p x = true) → (∃ x ∈ l, p x = true ∧ q x = false) → l.countP q < l.countP p
  | [], _, ⟨x, hx, _⟩ => by cases hx
  | y :: l, h, ⟨x, hx, hp, hq⟩ => by
    have h1 : l.countP q ≤ l.countP p := List.countP_mono_left fun z hz hqz => h z (List.mem_cons_of_mem _ hz) hqz
    rcases List.mem_cons.1 hx with rfl | hx'
    · rw [List.countP_cons_of_pos hp, List.countP_cons_of_neg (by simp [hq])]
      omega
    · have h2 := countP_lt l (fun z hz => h z (List.mem_cons_of_mem _ hz)) ⟨x, hx', hp, hq⟩
      rw [List.countP_cons, List.countP_cons]
      have h3 := h y List.mem_cons_self
      cases hy : q y
      · simp; omega
      · simp [h3 hy]; omega
theorem lacks_set {listed : Array Bool} {i : Nat} (h : i ∈ Region.ready md ops listed) : lacks ops (listed.setIfInBounds i true) < lacks ops listed := by
  obtain ⟨h0, o, ho, hall⟩ := mem_ready.1 h
  have hlt : i < ops.size := (Array.getElem?_eq_some_iff.1 ho).1
  refine countP_lt _ (fun j _ hj => ?_) ⟨i, List.mem_range.2 hlt, by simp [h0], ?_⟩
  · by_cases e : j = i
    · subst e
      simp [h0]
    · rw [getD_set_ne true (Ne.symm e)] at hj
      exact hj
  · have hs : i < listed.size := by
      rcases Nat.lt_or_ge i listed.size with h' | h'
      · exact h'
      · simp [Array.getElem?_eq_none h'] at h0
    simp [hs]
theorem wpAny_inv (I : Array Bool → Act → World → Prop)
    (hstep : ∀ listed a w i, I listed a w → i ∈ Region.ready md ops listed → wpOp P ops Q i (fun a' w' => I (listed.setIfInBounds i true) a' w') a w)
    (hend : ∀ listed a w, I listed a w → Region.ready md ops listed = [] → Q .normal a w) :
    ∀ (fuel : Nat) (listed : Array Bool) (a : Act) (w : World), lacks ops listed ≤ fuel → I listed a w → wpAny P md ops Q fuel listed a w := by
  intro fuel
  induction fuel with
  | zero =>
    intro listed a w hl hI
    have hr : Region.ready md ops listed = [] := by
      cases hr : Region.ready md ops listed with
      | nil => rfl
      | cons i is =>
        have := lacks_set (md := md) (ops := ops) (listed := listed) (i := i) (by rw [hr]; exact List.mem_cons_self)
        omega
    exact ⟨hr, hend _ _ _ hI hr⟩
  | succ fuel ih =>
    intro listed a w hl hI
    refine ⟨fun hr => hend _ _ _ hI hr, fun i hi => ?_⟩
    refine wpOp_mono (fun a' w' h' => ih _ a' w' ?_ h') (hstep listed a w i hI hi)
    have := lacks_set hi
    omega
theorem wp_region_inv {id : Nat} {a : Act} {w : World} (hm : P.follows .mixedOrders = true) (I : Array Bool → Act → World → Prop)
    (h0 : I (Array.replicate ops.size false) a w.drew)
    (hstep : ∀ listed a w i, I listed a w → i ∈ Region.ready .any ops listed → wpOp P ops Q i (fun a' w' => I (listed.setIfInBounds i true) a' w') a w)
    (hend : ∀ listed a w, I listed a w → Region.ready .any ops listed = [] → Q .normal a w) : (Code.region id ops true).wp P Q a w :=
  wp_region_any hm (wpAny_inv I hstep hend _ _ _ _ (Nat.le_trans List.countP_le_length (by simp)) h0)
end
def over (T : Array Value) : List Nat → (Nat → Value) → Array Value
  | [], _ => T
  | d :: S, v => (over T S v).setIfInBounds d (v d)
def updV (v : Nat → Value) (d : Nat) (x : Value) : Nat → Value := fun j => if j = d then x else v j
def updB (b : Nat → Bool) (i : Nat) : Nat → Bool := fun j => if j = i then true else b j
theorem over_size (T : Array Value) : ∀ (S : List Nat) (v : Nat → Value), (over T S v).size = T.size
  | [], _ => rfl
  | d :: S, v => by rw [over, Array.size_setIfInBounds]; exact over_size T S v
theorem over_get (T : Array Value) (v : Nat → Value) : ∀ (S : List Nat) (j : Nat), (over T S v)[j]? = if j ∈ S ∧ j < T.size then some (v j) else T[j]?
  | [], j => by simp [over]
  | d :: S, j => by
    rw [over, Array.getElem?_setIfInBounds, over_size, over_get T v S j]
    by_cases e : d = j
    · subst e
      by_cases h : d < T.size
      · simp [h]
      · simp [h]
    · have e' : ¬ j = d := fun h => e h.symm
      simp [e, e']
theorem over_set (T : Array Value) (v : Nat → Value) (S : List Nat) (d : Nat) (x : Value) (hd : d ∈ S) : (over T S v).setIfInBounds d x = over T S (updV v d x) := by
  apply Array.ext_getElem?
  intro j
  rw [Array.getElem?_setIfInBounds, over_size, over_get, over_get]
  by_cases e : d = j
  · subst e
    by_cases h : d < T.size
    · simp [h, hd, updV]
    · simp [h]
  · have e' : ¬ j = d := fun h => e h.symm
    simp [e, e', updV]
theorem over_self (T : Array Value) (S : List Nat) : over T S (fun j => T.getD j undef) = T := by
  apply Array.ext_getElem?
  intro j
  rw [over_get]
  split
  · rename_i h
    simp [h.2]
  · rfl
theorem over_in {T : Array Value} {v : Nat → Value} {S : List Nat} {j : Nat} (h : j ∈ S) (hs : j < T.size) : (over T S v)[j]? = some (v j) := by
  rw [over_get, if_pos ⟨h, hs⟩]
theorem over_out {T : Array Value} {v : Nat → Value} {S : List Nat} {j : Nat} (h : j ∉ S) : (over T S v)[j]? = T[j]? := by
  rw [over_get, if_neg (fun g => h g.1)]
def forward (md : Region.Mode) (ops : Array Oper) : Bool := (List.range ops.size).all fun i => ((ops[i]?).map (·.after.all fun e => !Region.binds md e || decide (e.on < i))).getD true
section
variable {P : Program} {ops : Array Oper} {Q : Exit → Act → World → Prop} {md : Region.Mode}
theorem all_listed (hf : forward md ops = true) {listed : Array Bool} (hr : Region.ready md ops listed = []) : ∀ i, i < ops.size → listed.getD i true = true := by
  intro i
  induction i using Nat.strongRecOn with
  | _ i ih =>
    intro hi
    cases hb : listed.getD i true with
    | true => rfl
    | false =>
      have ho : ops[i]? = some ops[i] := by simp [hi]
      have hfi : ∀ e ∈ (ops[i]).after, Region.binds md e = true → e.on < i := by
        have h := List.all_eq_true.1 hf i (List.mem_range.2 hi)
        simp only [ho, Option.map_some, Option.getD_some] at h
        intro e he hb
        have h2 := (Array.all_eq_true_iff_forall_mem.1 h) e he
        simpa [hb] using h2
      have hm : i ∈ Region.ready md ops listed := mem_ready.2 ⟨hb, ops[i], ho, fun e he hbd => by
        have hlt := hfi e he hbd
        have h3 := ih e.on hlt (by omega)
        -- listed.getD e.on true = true, and it is inside
        have hs : i < listed.size := by
          rcases Nat.lt_or_ge i listed.size with h' | h'
          · exact h'
          · simp [Array.getElem?_eq_none h'] at hb
        have hs2 : e.on < listed.size := by omega
        simp [hs2] at h3 ⊢
        exact h3⟩
      rw [hr] at hm
      cases hm
theorem wp_region_inv2 {id : Nat} {T : Array Value} {df : List Deferred} {w : World} (S : List Nat) (J : (Nat → Bool) → (Nat → Value) → World → Prop)
    (hm : P.follows .mixedOrders = true) (hf : forward .any ops = true)
    (h0 : J (fun _ => false) (fun j => T.getD j undef) w.drew)
    (hstep : ∀ (i : Nat) (b : Nat → Bool) (v : Nat → Value) (wx : World), i < ops.size → (∀ o, ops[i]? = some o → ∀ e ∈ o.after, Region.binds .any e = true → b e.on = true) → b i = false → J b v wx →
      wpOp P ops Q i (fun a' w' => ∃ v', a' = ⟨over T S v', df⟩ ∧ J (updB b i) v' w') ⟨over T S v, df⟩ wx)
    (hend : ∀ (b : Nat → Bool) (v : Nat → Value) (wx : World), (∀ i, i < ops.size → b i = true) → J b v wx → Q .normal ⟨over T S v, df⟩ wx) :
    (Code.region id ops true).wp P Q ⟨T, df⟩ w := by
  refine wp_region_inv hm (fun listed a w' => listed.size = ops.size ∧ ∃ v, a = ⟨over T S v, df⟩ ∧ J (fun i => listed.getD i false) v w') ?_ ?_ ?_
  · refine ⟨by simp, fun j => T.getD j undef, by rw [over_self], ?_⟩
    have e : (fun i => (Array.replicate ops.size false).getD i false) = fun _ => false := by
      funext i
      by_cases h : i < ops.size <;> simp [h]
    rw [e]
    exact h0
  · rintro listed a wx i ⟨hs, v, rfl, hJ⟩ hi
    obtain ⟨hu, o, ho, hall⟩ := mem_ready.1 hi
    have hlt : i < ops.size := (Array.getElem?_eq_some_iff.1 ho).1
    have hlt' : i < listed.size := by omega
    have hu' : listed.getD i false = false := by
      simp [hlt'] at hu ⊢
      exact hu
    refine wpOp_mono ?_ (hstep i (fun i => listed.getD i false) v wx hlt (fun o' ho' => by rw [ho] at ho'; injection ho' with ho'; subst ho'; exact hall) hu' hJ)
    rintro a' w' ⟨v', rfl, hJ'⟩
    refine ⟨by simpa using hs, v', rfl, ?_⟩
    have e : (fun j => (listed.setIfInBounds i true).getD j false) = updB (fun i => listed.getD i false) i := by
      funext j
      unfold updB
      by_cases e : j = i
      · subst e
        simp [hlt']
      · rw [getD_set_ne false (Ne.symm e), if_neg e]
    rw [e]
    exact hJ'
  · rintro listed a wx ⟨hs, v, rfl, hJ⟩ hr
    refine hend _ v wx (fun i hi => ?_) hJ
    have := all_listed hf hr i hi
    have hlt' : i < listed.size := by omega
    simp [hlt'] at this ⊢
    exact this
theorem wp_region_inv3 {id : Nat} {T : Array Value} {df : List Deferred} {w : World} (S : List Nat) (J : (Nat → Bool) → (Nat → Value) → World → Prop)
    (hm : P.follows .mixedOrders = true) (hf : forward .any ops = true) (hS : S.all (fun j => decide (j < T.size)) = true)
    (h0 : J (fun _ => false) (fun j => T.getD j undef) w.drew)
    (hstep : ∀ (i : Nat) (b : Nat → Bool) (v : Nat → Value) (wx : World) (o : Oper) (T' : Array Value) (K : Act → World → Prop), ops[i]? = some o → (∀ e ∈ o.after, Region.binds .any e = true → b e.on = true) → b i = false → J b v wx →
      (∀ j, j ∈ S → T'[j]? = some (v j)) → (∀ j, j ∉ S → T'[j]? = T[j]?) →
      (∀ d x w', d ∈ S → J (updB b i) (updV v d x) w' → K ⟨T'.setIfInBounds d x, df⟩ w') → (∀ w', J (updB b i) v w' → K ⟨T', df⟩ w') →
      if Region.wanted o (yielded ops T') = true then Oper.wp P o ⟨T', df⟩ wx K Q else K (Act.put ⟨T', df⟩ o.dst undef) wx)
    (hend : ∀ (b : Nat → Bool) (v : Nat → Value) (wx : World), (∀ i, i < ops.size → b i = true) → J b v wx → Q .normal ⟨over T S v, df⟩ wx) :
    (Code.region id ops true).wp P Q ⟨T, df⟩ w := by
  refine wp_region_inv2 S J hm hf h0 (fun i b v wx hi hd hb hJ => ?_) hend
  have ho : ops[i]? = some ops[i] := by simp [hi]
  refine wpOp_step ho (fun K hK => ?_)
  refine hstep i b v wx _ _ K ho (hd _ ho) hb hJ (fun j hj => over_in hj (of_decide_eq_true (List.all_eq_true.1 hS j hj))) (fun j hj => over_out hj) (fun d x w' hd hJ' => hK _ _ ⟨updV v d x, ?_, hJ'⟩) (fun w' hJ' => hK _ _ ⟨v, rfl, hJ'⟩)
  rw [over_set T v S d x hd]
end
end Go.Proofs.YtmfnpipmbpnfbaaGreatDoor
namespace Go.Proofs.YtmfnpipmbpnfbaaGreatDoor
open Go.RowKit
theorem over_sgz {z z' : Int} {Q R : Nat} (h0 : z' ≠ 0) (h : z.natAbs = Q * z'.natAbs + R) (hR : R < z'.natAbs) : sgz (sgnI z != sgnI z') Q = z.tdiv z' ∧ sgz (decide (sgnI z < 0)) R = z.tmod z' := by
  have hy : 0 < z'.natAbs := by omega
  have e1 : z.natAbs / z'.natAbs = Q := by rw [h, Nat.mul_comm, Nat.mul_add_div hy, Nat.div_eq_of_lt hR, Nat.add_zero]
  have e2 : z.natAbs % z'.natAbs = R := by rw [h, Nat.mul_comm, Nat.mul_add_mod, Nat.mod_eq_of_lt hR]
  clear h hR
  subst e1 e2
  rw [sgn_lt]
  obtain ⟨y, hy'⟩ : ∃ y : Nat, z'.natAbs = y := ⟨_, rfl⟩
  obtain ⟨x, hx⟩ : ∃ x : Nat, z.natAbs = x := ⟨_, rfl⟩
  rw [hy'] at hy ⊢
  rw [hx]
  have d1 := Int.ofNat_tdiv x y
  have d2 := Int.ofNat_tmod x y
  rcases Int.lt_trichotomy z 0 with k | k | k
  · have ez : z = -(x : Int) := by omega
    have s1 : sgnI z = -1 := if_pos k
    rcases Int.lt_or_gt_of_ne h0 with k' | k'
    · have ez' : z' = -(y : Int) := by omega
      have s2 : sgnI z' = -1 := if_pos k'
      rw [s1, s2, decide_eq_true k, ez, ez', Int.neg_tdiv, Int.tdiv_neg, Int.neg_tmod, Int.tmod_neg, ← d1, ← d2, Int.neg_neg]
      exact ⟨rfl, rfl⟩
    · have ez' : z' = (y : Int) := by omega
      have s2 : sgnI z' = 1 := by unfold sgnI; rw [if_neg (by omega), if_neg (by omega)]
      rw [s1, s2, decide_eq_true k, ez, ez', Int.neg_tdiv, Int.neg_tmod, ← d1, ← d2]
      exact ⟨rfl, rfl⟩
  · have ex : x = 0 := by omega
    subst k ex
    rw [Int.zero_tdiv, Int.zero_tmod, Nat.zero_div, Nat.zero_mod]
    constructor
    · cases (sgnI 0 != sgnI z') <;> rfl
    · rfl
  · have ez : z = (x : Int) := by omega
    have s1 : sgnI z = 1 := by unfold sgnI; rw [if_neg (by omega), if_neg (by omega)]
    have kn : ¬ z < 0 := by omega
    rcases Int.lt_or_gt_of_ne h0 with k' | k'
    · have ez' : z' = -(y : Int) := by omega
      have s2 : sgnI z' = -1 := if_pos k'
      rw [s1, s2, decide_eq_false kn, ez, ez', Int.tdiv_neg, Int.tmod_neg, ← d1, ← d2]
      exact ⟨rfl, rfl⟩
    · have ez' : z' = (y : Int) := by omega
      have s2 : sgnI z' = 1 := by unfold sgnI; rw [if_neg (by omega), if_neg (by omega)]
      rw [s1, s2, decide_eq_false kn, ez, ez', ← d1, ← d2]
      exact ⟨rfl, rfl⟩
def set3 (w : World) (g : Nat) (a b c : Value) : World := ((w.setCell ⟨g, 0, none⟩ a).setCell ⟨g, 1, none⟩ b).setCell ⟨g, 2, none⟩ c
theorem W3.bx {g : Nat} {w : World} (h : W3 g w) : Bx w g 84 := h.2.2.2.2
theorem size_set (w : World) (g o : Nat) (u : Value) : w.heap.size ≤ (w.setCell ⟨g, o, none⟩ u).heap.size := ((Below.refl 0 w).setCell (Nat.zero_le _) u).size
theorem B3.far {g k : Nat} {p q r : Value} {w : World} (h : B3 g p q r w) (hk : g ≠ k) (o : Nat) (u : Value) : B3 g p q r (w.setCell ⟨k, o, none⟩ u) := by
  obtain ⟨h1, h2, h3, h4⟩ := h
  have e : (w.setCell ⟨k, o, none⟩ u).heap[g]? = w.heap[g]? := Below.heap_setCell _ _ _ _ hk
  exact ⟨(World.cell?_of_block (w := w) (a := ⟨g, 0, none⟩) e).trans h1, (World.cell?_of_block (w := w) (a := ⟨g, 1, none⟩) e).trans h2, (World.cell?_of_block (w := w) (a := ⟨g, 2, none⟩) e).trans h3, Nat.lt_of_lt_of_le h4 (size_set _ _ _ _)⟩
theorem W3.far {g k : Nat} {w : World} (h : W3 g w) (hk : g ≠ k) (o : Nat) (u : Value) : W3 g (w.setCell ⟨k, o, none⟩ u) := by
  obtain ⟨⟨p, q, r, h1, h2, h3⟩, f1, f2, f3, hx⟩ := h
  have e : (w.setCell ⟨k, o, none⟩ u).heap[g]? = w.heap[g]? := Below.heap_setCell _ _ _ _ hk
  exact ⟨⟨p, q, r, (World.cell?_of_block (w := w) (a := ⟨g, 0, none⟩) e).trans h1, (World.cell?_of_block (w := w) (a := ⟨g, 1, none⟩) e).trans h2, (World.cell?_of_block (w := w) (a := ⟨g, 2, none⟩) e).trans h3⟩,
    (World.frozen?_of_block (w := w) (a := ⟨g, 0, none⟩) e).trans f1, (World.frozen?_of_block (w := w) (a := ⟨g, 1, none⟩) e).trans f2, (World.frozen?_of_block (w := w) (a := ⟨g, 2, none⟩) e).trans f3, hx.set _ _ _⟩
theorem W3.set {g : Nat} {w : World} (h : W3 g w) (p q r : Value) : B3 g p q r (set3 w g p q r) ∧ W3 g (set3 w g p q r) := by
  obtain ⟨⟨a, b, c, h1, h2, h3⟩, f1, f2, f3, hx⟩ := h
  have hz := hx.lt
  have hb : w.heap.size ≤ (set3 w g p q r).heap.size := Nat.le_trans (Nat.le_trans (size_set _ _ _ _) (size_set _ _ _ _)) (size_set _ _ _ _)
  have hb3 : B3 g p q r (set3 w g p q r) := by
    refine ⟨?_, ?_, ?_, Nat.lt_of_lt_of_le hz hb⟩ <;> simp [set3, go_sem, h1, h2, h3]
  refine ⟨hb3, ⟨p, q, r, hb3.1, hb3.2.1, hb3.2.2.1⟩, ?_, ?_, ?_, ((hx.set _ _ _).set _ _ _).set _ _ _⟩ <;> simp [set3, go_sem, f1, f2, f3]
theorem set3_below {base : Nat} {X w : World} (h : Below base X w) {g : Nat} (hg : base ≤ g) (a b c : Value) : Below base X (set3 w g a b c) := ((h.setCell hg _).setCell hg _).setCell hg _
def IV (w : World) (v : Value) (z : Int) : Prop := ∃ s neg A n c, v = .agg #[.int .i64 s, .bool neg, .slice A n c] ∧ RI w s neg A n c z
theorem IV.keep {w w' : World} {v : Value} {z : Int} (h : IV w v z) (hb : Below w.heap.size w w') : IV w' v z := by
  obtain ⟨s, neg, A, n, c, e, h1⟩ := h
  exact ⟨s, neg, A, n, c, e, h1.keep hb⟩
theorem RI.set_3 {w : World} {s : Int} {neg : Bool} {A : Option Addr} {n c : Nat} {z : Int} (h : RI w s neg A n c z) {g : Nat} (hw : W3 g w) (p q r : Value) : RI (set3 w g p q r) s neg A n c z :=
  ((h.set hw.bx (by decide) _ _).set (hw.bx.set _ _ _) (by decide) _ _).set ((hw.bx.set _ _ _).set _ _ _) (by decide) _ _
theorem IV.set_3 {w : World} {v : Value} {z : Int} (h : IV w v z) {g : Nat} (hw : W3 g w) (p q r : Value) : IV (set3 w g p q r) v z := by
  obtain ⟨s, neg, A, n, c, e, h1⟩ := h
  exact ⟨s, neg, A, n, c, e, h1.set_3 hw p q r⟩
theorem Ls.set_3 {w : World} {v : Value} {l : List Nat} (h : Ls w v l) {g : Nat} (hw : W3 g w) (p q r : Value) : Ls (set3 w g p q r) v l :=
  ((h.set hw.bx (by decide) _ _).set (hw.bx.set _ _ _) (by decide) _ _).set ((hw.bx.set _ _ _).set _ _ _) (by decide) _ _
def BI (w : World) (g : Nat) (z : Int) : Prop := ∃ s neg A n c, B3 g (.int .i64 s) (.bool neg) (.slice A n c) w ∧ RI w s neg A n c z
theorem BI.keep {w w' : World} {g : Nat} {z : Int} (h : BI w g z) (hb : Below w.heap.size w w') : BI w' g z := by
  obtain ⟨s, neg, A, n, c, e, h1⟩ := h
  exact ⟨s, neg, A, n, c, e.keep hb, h1.keep hb⟩
theorem B3.set_3 {g k : Nat} {p q r : Value} {w : World} (h : B3 g p q r w) (hk : g ≠ k) (a b c : Value) : B3 g p q r (set3 w k a b c) := ((h.far hk _ _).far hk _ _).far hk _ _
theorem W3.set_3 {g k : Nat} {w : World} (h : W3 g w) (hk : g ≠ k) (a b c : Value) : W3 g (set3 w k a b c) := ((h.far hk _ _).far hk _ _).far hk _ _
theorem BI.set_3 {w : World} {g k : Nat} {z : Int} (h : BI w g z) (hk : g ≠ k) (hw : W3 k w) (a b c : Value) : BI (set3 w k a b c) g z := by
  obtain ⟨s, neg, A, n, d, e, h1⟩ := h
  exact ⟨s, neg, A, n, d, e.set_3 hk a b c, h1.set_3 hw a b c⟩
structure Fix (w : World) (B : Nat) (p q r p' q' r' x y : Value) (lq lr : List Nat) (wx : World) : Prop where
  below : Below B w wx
  ba : B3 B p q r wx
  bb : B3 (B + 1) p' q' r' wx
  wq : W3 (B + 1 + 1) wx
  wr : W3 (B + 1 + 1 + 1) wx
  lx : Ls wx x lq
  ly : Ls wx y lr
def GO (B : Nat) (za zb x y : Value) (q1 q2 : Int) (b1 b2 : Bool) (zq zr : Int) (i : Nat) (u : Value) (wx : World) : Prop :=
  match i with
  | 0 => u = za
  | 1 => u = .int .i64 q1
  | 2 => u = zb
  | 3 => u = .int .i64 q2
  | 4 => u = .bool b1
  | 5 => u = x
  | 6 => IV wx u zq
  | 7 => u = za
  | 8 => u = .int .i64 q1
  | 9 => u = .bool b2
  | 10 => u = y
  | 11 => IV wx u zr
  | 12 => BI wx (B + 1 + 1) zq
  | 13 => BI wx (B + 1 + 1 + 1) zr
  | _ => True
section
variable {w : World} {B : Nat} {p q r p' q' r' x y za zb : Value} {lq lr : List Nat} {q1 q2 : Int} {b1 b2 : Bool} {zq zr : Int} {wx wy : World} {b : Nat → Bool} {v : Nat → Value}
theorem Fix.keep (h : Fix w B p q r p' q' r' x y lq lr wx) (hb : Below wx.heap.size wx wy) (hB : B ≤ wx.heap.size) : Fix w B p q r p' q' r' x y lq lr wy :=
  ⟨h.below.trans (hb.mono hB), h.ba.keep hb, h.bb.keep hb, h.wq.keep hb, h.wr.keep hb, h.lx.keep hb, h.ly.keep hb⟩
theorem Fix.put2 (h : Fix w B p q r p' q' r' x y lq lr wx) (a c d : Value) : Fix w B p q r p' q' r' x y lq lr (set3 wx (B + 1 + 1) a c d) :=
  ⟨set3_below h.below (by omega) _ _ _, h.ba.set_3 (by omega) _ _ _, h.bb.set_3 (by omega) _ _ _, (h.wq.set _ _ _).2, h.wr.set_3 (by omega) _ _ _, h.lx.set_3 h.wq _ _ _, h.ly.set_3 h.wq _ _ _⟩
theorem Fix.put3 (h : Fix w B p q r p' q' r' x y lq lr wx) (a c d : Value) : Fix w B p q r p' q' r' x y lq lr (set3 wx (B + 1 + 1 + 1) a c d) :=
  ⟨set3_below h.below (by omega) _ _ _, h.ba.set_3 (by omega) _ _ _, h.bb.set_3 (by omega) _ _ _, h.wq.set_3 (by omega) _ _ _, (h.wr.set _ _ _).2, h.lx.set_3 h.wr _ _ _, h.ly.set_3 h.wr _ _ _⟩
theorem GO.keep {i : Nat} {u : Value} (h : GO B za zb x y q1 q2 b1 b2 zq zr i u wx) (hb : Below wx.heap.size wx wy) : GO B za zb x y q1 q2 b1 b2 zq zr i u wy := by
  by_cases h14 : i < 14
  · rcases (by omega : i = 0 ∨ i = 1 ∨ i = 2 ∨ i = 3 ∨ i = 4 ∨ i = 5 ∨ i = 6 ∨ i = 7 ∨ i = 8 ∨ i = 9 ∨ i = 10 ∨ i = 11 ∨ i = 12 ∨ i = 13) with rfl | rfl | rfl | rfl | rfl | rfl | rfl | rfl | rfl | rfl | rfl | rfl | rfl | rfl
    all_goals first | exact IV.keep h hb | exact BI.keep h hb | exact h
  · obtain ⟨k, rfl⟩ : ∃ k, i = k + 14 := ⟨i - 14, by omega⟩
    exact trivial
theorem GO.put2 {i : Nat} {u : Value} (h : GO B za zb x y q1 q2 b1 b2 zq zr i u wx) (hi : i ≠ 12) (hw : W3 (B + 1 + 1) wx) (a c d : Value) : GO B za zb x y q1 q2 b1 b2 zq zr i u (set3 wx (B + 1 + 1) a c d) := by
  by_cases h14 : i < 14
  · rcases (by omega : i = 0 ∨ i = 1 ∨ i = 2 ∨ i = 3 ∨ i = 4 ∨ i = 5 ∨ i = 6 ∨ i = 7 ∨ i = 8 ∨ i = 9 ∨ i = 10 ∨ i = 11 ∨ i = 12 ∨ i = 13) with rfl | rfl | rfl | rfl | rfl | rfl | rfl | rfl | rfl | rfl | rfl | rfl | rfl | rfl
    all_goals first | exact IV.set_3 h hw _ _ _ | exact BI.set_3 h (by omega) hw _ _ _ | exact (hi rfl).elim | exact h
  · obtain ⟨k, rfl⟩ : ∃ k, i = k + 14 := ⟨i - 14, by omega⟩
    exact trivial
theorem GO.put3 {i : Nat} {u : Value} (h : GO B za zb x y q1 q2 b1 b2 zq zr i u wx) (hi : i ≠ 13) (hw : W3 (B + 1 + 1 + 1) wx) (a c d : Value) : GO B za zb x y q1 q2 b1 b2 zq zr i u (set3 wx (B + 1 + 1 + 1) a c d) := by
  by_cases h14 : i < 14
  · rcases (by omega : i = 0 ∨ i = 1 ∨ i = 2 ∨ i = 3 ∨ i = 4 ∨ i = 5 ∨ i = 6 ∨ i = 7 ∨ i = 8 ∨ i = 9 ∨ i = 10 ∨ i = 11 ∨ i = 12 ∨ i = 13) with rfl | rfl | rfl | rfl | rfl | rfl | rfl | rfl | rfl | rfl | rfl | rfl | rfl | rfl
    all_goals first | exact IV.set_3 h hw _ _ _ | exact BI.set_3 h (by omega) hw _ _ _ | exact (hi rfl).elim | exact h
  · obtain ⟨k, rfl⟩ : ∃ k, i = k + 14 := ⟨i - 14, by omega⟩
    exact trivial
end
def JO (w : World) (B : Nat) (p q r p' q' r' x y : Value) (lq lr : List Nat) (q1 q2 : Int) (b1 b2 : Bool) (zq zr : Int) (b : Nat → Bool) (v : Nat → Value) (wx : World) : Prop :=
  Fix w B p q r p' q' r' x y lq lr wx ∧ ∀ i, b i = true → GO B (.agg #[p, q, r]) (.agg #[p', q', r']) x y q1 q2 b1 b2 zq zr i (v (38 + i)) wx
section
variable {w : World} {B : Nat} {p q r p' q' r' x y : Value} {lq lr : List Nat} {q1 q2 : Int} {b1 b2 : Bool} {zq zr : Int} {wx wy : World} {b : Nat → Bool} {v : Nat → Value}
theorem JO.keep (h : JO w B p q r p' q' r' x y lq lr q1 q2 b1 b2 zq zr b v wx) (hb : Below wx.heap.size wx wy) : JO w B p q r p' q' r' x y lq lr q1 q2 b1 b2 zq zr b v wy :=
  ⟨h.1.keep hb (Nat.le_of_lt h.1.ba.2.2.2), fun i hi => (h.2 i hi).keep hb⟩
theorem JO.put (h : JO w B p q r p' q' r' x y lq lr q1 q2 b1 b2 zq zr b v wx) (i : Nat) {u : Value} (hu : GO B (.agg #[p, q, r]) (.agg #[p', q', r']) x y q1 q2 b1 b2 zq zr i u wx) : JO w B p q r p' q' r' x y lq lr q1 q2 b1 b2 zq zr (updB b i) (updV v (38 + i) u) wx := by
  refine ⟨h.1, fun j hj => ?_⟩
  unfold updB at hj
  unfold updV
  by_cases e : j = i
  · subst e
    rw [if_pos rfl]
    exact hu
  · rw [if_neg e] at hj
    rw [if_neg (by omega)]
    exact h.2 j hj
theorem JO.store2 (h : JO w B p q r p' q' r' x y lq lr q1 q2 b1 b2 zq zr b v wx) {s : Int} {neg : Bool} {A : Option Addr} {n c : Nat} (hu : RI wx s neg A n c zq) : JO w B p q r p' q' r' x y lq lr q1 q2 b1 b2 zq zr (updB b 12) v (set3 wx (B + 1 + 1) (.int .i64 s) (.bool neg) (.slice A n c)) := by
  refine ⟨h.1.put2 _ _ _, fun j hj => ?_⟩
  unfold updB at hj
  by_cases e : j = 12
  · subst e
    exact ⟨s, neg, A, n, c, (h.1.wq.set _ _ _).1, hu.set_3 h.1.wq _ _ _⟩
  · rw [if_neg e] at hj
    exact (h.2 j hj).put2 e h.1.wq _ _ _
theorem JO.store3 (h : JO w B p q r p' q' r' x y lq lr q1 q2 b1 b2 zq zr b v wx) {s : Int} {neg : Bool} {A : Option Addr} {n c : Nat} (hu : RI wx s neg A n c zr) : JO w B p q r p' q' r' x y lq lr q1 q2 b1 b2 zq zr (updB b 13) v (set3 wx (B + 1 + 1 + 1) (.int .i64 s) (.bool neg) (.slice A n c)) := by
  refine ⟨h.1.put3 _ _ _, fun j hj => ?_⟩
  unfold updB at hj
  by_cases e : j = 13
  · subst e
    exact ⟨s, neg, A, n, c, (h.1.wr.set _ _ _).1, hu.set_3 h.1.wr _ _ _⟩
  · rw [if_neg e] at hj
    exact (h.2 j hj).put3 e h.1.wr _ _ _
end
end Go.Proofs.YtmfnpipmbpnfbaaGreatDoor
