/- The division of lists of digits of the reference in memory. -/
import Derived.Test.YtmfnpipmbpnfbaaGreatDoorF16

set_option maxRecDepth 100000
set_option maxHeartbeats 40000000
namespace Go.Proofs.YtmfnpipmbpnfbaaGreatDoor
open Go.RowKit
def RetDv (x y : Nat) (w : World) (e : Ending) (w' : World) : Prop :=
  ∃ v1 v2 l1 l2, e = .returned (.tuple #[v1, v2]) ∧ Ls w' v1 l1 ∧ Ls w' v2 l2 ∧ x = val l1 * y + val l2 ∧ val l2 < y ∧ l1.length ≤ 250002 ∧ l2.length ≤ 250002 ∧ Below w.heap.size w w'
def DivR (w : World) (gu gv gq k0 : Nat) (lu0 lv : List Nat) (i : Value) (wr : World) : Prop :=
  ∃ (k : Nat) (lu q : List Nat), k ≤ k0 ∧ i = .int .i64 ((k : Int) - 1) ∧ lu.length = lu0.length ∧ Dl lu ∧ Buf wr gu lu ∧ Buf wr gv lv ∧ q.length = k0 ∧ Dl q ∧ RowI wr gq q ∧
    val lu0 = val lv * (Bs ^ k * val (q.drop k)) + val lu ∧ val (lu.drop k) < val lv ∧ Below w.heap.size w wr
theorem div_start {la lb lu lv1 : List Nat} {n m k0 f : Nat} (hda : Dl la) (hla : la.length = n) (hlb : lb.length = m) (hzb : Nz lb) (hm : 2 ≤ m) (hk0 : n + 1 = k0 + m) (hf0 : 0 < f) (hmul : val lb * f < Bs ^ m) (hlu : lu.length = n + 1) (hvu : val lu = val la * f)
    (hdv : Dl lv1) (hlv : lv1.length = m + 1) (hvv : val lv1 = val lb * f) : (lv1.take m).length = m ∧ val (lv1.take m) = val lb * f ∧ 0 < (lv1.take m).getD (m - 1) 0 ∧ val (lu.drop k0) < val lb * f := by
  have e1 : (lv1.take m).length = m := by rw [List.length_take]; omega
  have e2 : val (lv1.take m) = val lb * f := by
    have h1 := val_take_succ lv1 m
    rw [val_take_all (by omega), hvv] at h1
    rcases Nat.eq_zero_or_pos (lv1.getD m 0) with h | h
    · rw [h, Nat.mul_zero, Nat.add_zero] at h1; exact h1.symm
    · have : Bs ^ m * 1 ≤ Bs ^ m * lv1.getD m 0 := Nat.mul_le_mul_left _ h
      omega
  have hlb1 : Bs ^ (m - 1) ≤ val lb := by
    have := Nz_ge hzb (by intro e; rw [e] at hlb; simp at hlb; omega)
    rw [hlb] at this; exact this
  have hbf : val lb * 1 ≤ val lb * f := Nat.mul_le_mul_left _ hf0
  refine ⟨e1, e2, Nz_of_ge (hdv.take m) (by rw [e1]; omega) (by rw [e2]; omega), ?_⟩
  have h1 := val_lt hda
  rw [hla] at h1
  have h2 := val_split lu (k := k0) (by omega)
  have h3 : val la * f < Bs ^ n * f := Nat.mul_lt_mul_of_pos_right h1 hf0
  have h4 : Bs ^ n = Bs ^ k0 * Bs ^ (m - 1) := by rw [← Nat.pow_add]; congr 1; omega
  rw [h4, Nat.mul_assoc] at h3
  have h5 : Bs ^ k0 * val (lu.drop k0) < Bs ^ k0 * (Bs ^ (m - 1) * f) := by omega
  have h6 := Nat.lt_of_mul_lt_mul_left h5
  have h7 : Bs ^ (m - 1) * f ≤ val lb * f := Nat.mul_le_mul_right _ hlb1
  omega
theorem min_facts {a T V1 E0 : Nat} (hE0 : min (T / V1) 1073741823 = E0) (h1 : a ≤ T / V1) (h2 : a < 1073741824) : a ≤ E0 ∧ E0 ≤ 1073741823 := by
  rw [← hE0]
  exact ⟨Nat.le_min.2 ⟨h1, by omega⟩, Nat.min_le_right _ _⟩
theorem min_int {T V1 E0 : Nat} (hTb : T ≤ 1152921504606846976) (hE0 : min (T / V1) 1073741823 = E0) : min (wrap64 ((T : Int) / (V1 : Int))) 1073741823 = (E0 : Int) := by
  have e : (T : Int) / (V1 : Int) = ((T / V1 : Nat) : Int) := rfl
  have h3 : T / V1 ≤ T := Nat.div_le_self _ _
  rw [e, ← hE0]
  generalize T / V1 = u at h3
  rw [IntWalk.wrap64_in (u : Int) (by omega)]
  omega
theorem Lc.cells {w : World} {b off : Nat} {l : List Nat} (h : Lc w (some ⟨b, off, none⟩) l) : ∀ (j : Nat) (u : Value), (l.map fun (d : Nat) => Value.int .i64 (d : Int))[j]? = some u → w.cell? ((⟨b, off, none⟩ : Addr).add j) = some u := by
  intro j u hj
  rw [List.getElem?_map] at hj
  rcases Nat.lt_or_ge j l.length with hjl | hjl
  · rw [List.getElem?_eq_getElem hjl] at hj
    simp at hj
    subst hj
    have := h.at hjl
    simp only [List.getD_eq_getElem?_getD, List.getElem?_eq_getElem hjl, Option.getD_some] at this
    have hadd : (⟨b, off, none⟩ : Addr).add j = ⟨b, off + j, none⟩ := by unfold Addr.add; split <;> simp_all
    rw [hadd]
    exact this
  · rw [List.getElem?_eq_none hjl] at hj
    cases hj
theorem own_of {w : World} {B n : Nat} {v : Value} {l : List Nat} (h : w.ownsRow B 3 1 v (0 + n) ([] ++ l.map fun (d : Nat) => .int .i64 (d : Int))) (hl : l.length = n) : Own w B v l := by
  rw [Nat.zero_add, List.nil_append, ← hl] at h
  exact h
theorem rtrim_win {w : World} {A : Option Addr} {n c : Nat} {l : List Nat} (hl : l.length = n) (hc : n ≤ c ∧ c ≤ 9223372036854775807) (hA : Lc w A l) :
    Calls Tryz.prog 224 #[.slice A n c] w fun e w' => ∃ k, e = .returned (.slice A k c) ∧ k ≤ n ∧ Nz (l.take k) ∧ val (l.take k) = val l ∧ w = w' := by
  have h := rtrim_any A c l w (by rw [hl]; exact hc.1) hc.2 hA
  rw [hl] at h
  exact h
theorem cmp_le_of {x y : Nat} (h : x ≤ y) : decide (cmpN x y ≤ 0) = true := by
  unfold cmpN
  split
  · decide
  · rw [if_neg (by omega)]; decide
theorem cmp_nle_of {x y : Nat} (h : y < x) : decide (cmpN x y ≤ 0) = false := by
  unfold cmpN
  rw [if_neg (by omega), if_pos h]
  decide
theorem take_val {l : List Nat} {k : Nat} (hk : k ≤ l.length) (h : val l < Bs ^ k) : val (l.take k) = val l := by
  have h1 := val_split l hk
  rcases Nat.eq_zero_or_pos (val (l.drop k)) with h2 | h2
  · rw [h2, Nat.mul_zero, Nat.add_zero] at h1; exact h1.symm
  · have h3 : Bs ^ k * 1 ≤ Bs ^ k * val (l.drop k) := Nat.mul_le_mul_left _ h2
    omega
theorem div_end {x y f Q lx q8 r8 : Nat} (h1 : x * f = y * f * Q + lx) (h2 : lx < y * f) (h3 : lx = q8 * f + r8) (hr : r8 < f) : x = Q * y + q8 ∧ q8 < y := by
  have hf : 0 < f := by omega
  have e1 : x * f = (Q * y + q8) * f + r8 := by
    rw [h1, h3, Nat.add_mul, Nat.mul_right_comm y f Q, Nat.mul_comm y Q, Nat.add_assoc]
  have e2 : r8 = 0 := by
    have h4 : (x * f) % f = 0 := Nat.mul_mod_left _ _
    rw [e1, Nat.mul_add_mod_self_right, Nat.mod_eq_of_lt hr] at h4
    exact h4
  rw [e2, Nat.add_zero] at e1 h3
  refine ⟨Nat.eq_of_mul_eq_mul_right hf e1, ?_⟩
  rw [h3] at h2
  exact Nat.lt_of_mul_lt_mul_right h2
theorem win_facts {lu lv : List Nat} {j m k0 : Nat} (hlu : lu.length = k0 + m) (hd : Dl lu) (hlv : lv.length = m) (hdv : Dl lv) (hj : j < k0) (hlt : val (lu.drop (j + 1)) < val lv) :
    ((lu.drop j).take (m + 1)).length = m + 1 ∧ Dl ((lu.drop j).take (m + 1)) ∧ val ((lu.drop j).take (m + 1)) = val (lu.drop j) ∧ val (lu.drop j) < Bs * val lv ∧ val (lu.drop (j + (m + 1))) = 0 := by
  have e1 : ((lu.drop j).take (m + 1)).length = m + 1 := by rw [List.length_take, List.length_drop]; omega
  have h1 : val (lu.drop j) < Bs * val lv := by
    rw [val_drop (l := lu) (k := j) (by omega)]
    have h2 := hd.getD j
    have h3 : Bs * (val (lu.drop (j + 1)) + 1) ≤ Bs * val lv := Nat.mul_le_mul_left _ hlt
    rw [Nat.mul_add] at h3
    omega
  have h2 := val_lt hdv
  rw [hlv] at h2
  have h3 := val_split (lu.drop j) (k := m + 1) (by rw [List.length_drop]; omega)
  rw [List.drop_drop] at h3
  have h4 : val (lu.drop (j + (m + 1))) = 0 := by
    rcases Nat.eq_zero_or_pos (val (lu.drop (j + (m + 1)))) with h | h
    · exact h
    · have h5 : Bs ^ (m + 1) * 1 ≤ Bs ^ (m + 1) * val (lu.drop (j + (m + 1))) := Nat.mul_le_mul_left _ h
      have h6 : Bs * val lv < Bs * Bs ^ m := Nat.mul_lt_mul_of_pos_left h2 Bs_pos
      rw [show Bs * Bs ^ m = Bs ^ (m + 1) from by rw [Nat.pow_succ, Nat.mul_comm]] at h6
      omega
  refine ⟨e1, (hd.drop j).take _, ?_, h1, h4⟩
  rw [h4, Nat.mul_zero, Nat.add_zero] at h3
  exact h3.symm
theorem round_facts {lu lv lu0 q ld : List Nat} {j m k0 e : Nat} (hlu : lu.length = k0 + m) (hd : Dl lu) (hj : j < k0) (hq : q.length = k0) (hld : ld.length = m + 1) (hdd : Dl ld) (hv0 : 0 < val lv)
    (he : e = val (lu.drop j) / val lv) (hv : val ld + val lv * e = val (lu.drop j)) (hz : val (lu.drop (j + (m + 1))) = 0) (hinv : val lu0 = val lv * (Bs ^ (j + 1) * val (q.drop (j + 1))) + val lu) :
    (splice lu j ld).length = lu.length ∧ Dl (splice lu j ld) ∧ val lu0 = val lv * (Bs ^ j * val ((q.set j e).drop j)) + val (splice lu j ld) ∧ val ((splice lu j ld).drop j) < val lv := by
  have ejl : (lu.take j).length = j := by rw [List.length_take]; omega
  have e1 : (splice lu j ld).drop j = ld ++ lu.drop (j + (m + 1)) := by
    unfold splice
    rw [hld, List.drop_append, ejl, Nat.sub_self, List.drop_zero, List.drop_of_length_le (by rw [ejl]; exact Nat.le_refl _), List.nil_append]
  have e2 : val ((splice lu j ld).drop j) = val ld := by rw [e1, val_append, hz, Nat.mul_zero, Nat.add_zero]
  have e3 : (splice lu j ld).length = lu.length := length_splice _ _ _ (by rw [hld]; omega)
  have e4 : val (splice lu j ld) = val (lu.take j) + Bs ^ j * val ld := by
    unfold splice
    rw [val_append, ejl, val_append, hld, hz, Nat.mul_zero, Nat.add_zero]
  have h1 := val_split lu (k := j) (by omega)
  refine ⟨e3, ?_, ?_, ?_⟩
  · unfold splice
    exact (hd.take j).app (hdd.app (hd.drop _))
  · rw [val_drop (l := q.set j e) (by rw [List.length_set]; omega), getD_set _ _ _ _ (by omega), if_pos rfl, List.drop_set_of_lt (by omega), e4, hinv, h1, ← hv, Nat.pow_succ]
    generalize val (q.drop (j + 1)) = Q
    generalize val lv = V
    generalize Bs ^ j = P
    generalize val (lu.take j) = L
    generalize val ld = D
    simp only [Nat.mul_add]
    have e5 : P * (V * e) = V * (P * e) := Nat.mul_left_comm _ _ _
    have e6 : V * (P * Bs * Q) = V * (P * (Bs * Q)) := by rw [Nat.mul_assoc P]
    omega
  · rw [e2]
    have h2 := Nat.div_add_mod (val (lu.drop j)) (val lv)
    have h3 := Nat.mod_lt (val (lu.drop j)) hv0
    rw [← he] at h2
    omega
theorem divided_long (A B : Option Addr) (n m k0 ca cb : Nat) (la lb : List Nat) (w : World) (hn : n ≤ 250000) (hm2 : 2 ≤ m) (hk0 : n + 1 = k0 + m) (hla : la.length = n) (hlb : lb.length = m) (hA : Lc w A la) (hB : Lc w B lb) (hda : Dl la) (hdb : Dl lb) (hza : Nz la) (hzb : Nz lb) (hge : val lb ≤ val la) :
    Calls Tryz.prog 190 #[.slice A n ca, .slice B m cb] w (RetDv (val la) (val lb) w) := by
  obtain ⟨t, ht⟩ : ∃ t, lb.getD (m - 1) 0 = t := ⟨_, rfl⟩
  have ht0 : 0 < t := by rw [← ht, ← hlb]; exact top_pos hzb (by omega)
  have ht1 : t < 1073741824 := by rw [← ht]; exact hdb.getD _
  obtain ⟨f, hf⟩ : ∃ f, 1073741824 / (t + 1) = f := ⟨_, rfl⟩
  have hfI : (1073741824 : Int) / ((t : Int) + 1) = (f : Int) := by rw [← hf]; rfl
  have hf0 : 0 < f := by rw [← hf]; exact fac_pos ht1
  have hf1 : f < 1073741824 := by rw [← hf]; exact fac_lt ht0
  have hmul : val lb * f < Bs ^ m := by
    rw [← hf, ← ht]
    have := fac_mul hdb (m := m - 1) (by omega)
    rw [show m - 1 + 1 = m from by omega] at this
    exact this
  have HMUL := Lib.hid hmul
  obtain ⟨b, off, rfl, -, hcells⟩ := id hB (by omega)
  have hct := hcells (m - 1) (by omega)
  rw [ht] at hct
  have g1 : ((m : Int) == 1) = false := by rw [beq_eq_false_iff_ne]; omega
  obtain ⟨q, hq⟩ : ∃ q, cmpN (val la) (val lb) = q := ⟨_, rfl⟩
  have hq0 : decide (q < 0) = false := by
    rw [← hq]; unfold cmpN
    rw [if_neg (by omega)]
    split <;> rfl
  have HC : Hid (∀ wx, Below w.heap.size w wx → Calls Tryz.prog 156 #[.slice A n ca, .slice (some ⟨b, off, none⟩) m cb] wx fun e w' => e = .returned (.int .i64 q) ∧ Drn wx w') := fun wx hb => by
    rw [← hq]
    exact rcmp_any A _ n m ca cb la lb wx (by omega) hla hlb (hA.keep hb) (hB.keep hb) hda hdb hza hzb
  have HSA : Hid (∀ wx, Below w.heap.size w wx → Calls Tryz.prog 223 #[.slice A n ca, .int .i64 (f : Int)] wx (RetO (fun l => l.length = n + 1 ∧ val l = val la * f) wx)) := fun wx hb => sca_own A n ca f la wx (by omega) hf1 hla (hA.keep hb) hda
  have HSB : Hid (∀ wx, Below w.heap.size w wx → Calls Tryz.prog 223 #[.slice (some ⟨b, off, none⟩) m cb, .int .i64 (f : Int)] wx (RetO (fun l => l.length = m + 1 ∧ val l = val lb * f) wx)) := fun wx hb => sca_own _ m cb f lb wx (by omega) hf1 hlb (hB.keep hb) hdb
  have hkI : (n : Int) + 1 - (m : Int) = (k0 : Int) := by omega
  have hk1 : 0 < k0 := by
    have := len_le_of_val hda hzb hge
    omega
  have hmk := make_rowI k0 (by omega)
  have HLA := Lib.hid hla
  have HLB := Lib.hid hlb
  have HDA := Lib.hid hda
  have HDB := Lib.hid hdb
  have HZB := Lib.hid hzb
  have HF := Lib.hid hf
  have HT := Lib.hid ht
  clear hcells hq hla hlb hda hdb hza hzb hge hf ht hmul hA hB
  go_enter Tryz.func190, Tryz.ntmps190
  go_wp2_with fail
  (with_reducible refine (HC.out _ (Below.refl _ _)).mono ?_)
  rintro e wd ⟨rfl, hdr⟩
  have hctd := (hdr.cell ⟨b, off + (m - 1), none⟩).trans hct
  have HD := Lib.hid (hdr.below w.heap.size)
  clear hdr hct
  go_upto_region 7 with fail
  go_region_held3 (fun w' => True) (trivial)
    (first
      | (go_at_call 223; (with_reducible refine (HSA.out _ (by repeat (first | exact HD.out | refine Below.drew ?_))).mono ?_); rintro e w1 ⟨v1, lu, rfl, hown1, hdl1, ⟨hlen1, hval1⟩, hB1⟩; obtain ⟨gu, cu, rfl, hgu, hbu, hcu1, hcu2⟩ := Buf.of hown1 (by omega); rw [hlen1]; rw [hlen1] at hcu1; (have R1 : Below wd.heap.size wd w1 := by first | exact hB1 | exact below_undrew' hB1); have HR1 := Lib.hid (HD.out.trans (R1.mono HD.out.size)); have HGU : Hid (w.heap.size ≤ gu) := Nat.le_trans HD.out.size hgu; have HBU := Lib.hid hbu; have HDU := Lib.hid hdl1; have HLU := Lib.hid hlen1; have HVU := Lib.hid hval1; clear hown1 hdl1 hlen1 hval1 hB1 R1 hbu hgu)
      | (go_at_call 223; (with_reducible refine (HSB.out _ (by repeat (first | exact HR1.out | refine Below.drew ?_))).mono ?_); rintro e w2 ⟨v2, lv1, rfl, hown2, hdl2, ⟨hlen2, hval2⟩, hB2⟩; obtain ⟨gv, cv, rfl, hgv, hbv, hcv1, hcv2⟩ := Buf.of hown2 (by omega); rw [hlen2]; rw [hlen2] at hcv1; (have R2 : Below w1.heap.size w1 w2 := by first | exact hB2 | exact below_undrew' hB2); have HR2 := Lib.hid (HR1.out.trans (R2.mono HR1.out.size)); have HGV : Hid (w1.heap.size ≤ gv) := hgv; have HBV := Lib.hid hbv; have HDV := Lib.hid hdl2; have HLV := Lib.hid hlen2; have HVV := Lib.hid hval2; have hcvI : (m : Int) ≤ (cv : Int) := (by omega); have hmI : (0 : Int) ≤ (m : Int) := (by omega); have HBU2 := Lib.hid (HBU.out.keep R2); have HUV : Hid (gu < w1.heap.size) := HBU.out.lt; clear hown2 hdl2 hlen2 hval2 hB2 R2 hbv hgv))
  all_goals go_wp2_with fail
  have HST := Lib.hid (div_start HDA.out HLA.out HLB.out HZB.out hm2 hk0 hf0 HMUL.out HLU.out HVU.out HDV.out HLV.out HVV.out)
  obtain ⟨lv, hlv⟩ : ∃ lv, lv1.take m = lv := ⟨_, rfl⟩
  have HLVL : Hid (lv.length = m) := by rw [← hlv]; exact HST.out.1
  have HLVV : Hid (val lv = val lb * f) := by rw [← hlv]; exact HST.out.2.1
  have HLVT : Hid (0 < lv.getD (m - 1) 0) := by rw [← hlv]; exact HST.out.2.2.1
  have HLVD : Hid (Dl lv) := by rw [← hlv]; exact HDV.out.take m
  have HBVL : Hid (Buf w2 gv lv) := by rw [← hlv]; exact HBV.out.take m
  have HLT0 := Lib.hid HST.out.2.2.2
  have HQ0 : Hid (RowI (w2.alloc (.cells (madeCells #[.int .i64 0] k0) 3)) w2.heap.size (List.replicate k0 0)) := RowI.new w2 k0
  have hgq1 : Hid (gu ≠ w2.heap.size) := Nat.ne_of_lt HBU2.out.lt
  have hgq2 : Hid (gv ≠ w2.heap.size) := Nat.ne_of_lt HBV.out.lt
  have huv : Hid (gu ≠ gv) := Nat.ne_of_lt (Nat.lt_of_lt_of_le HUV.out HGV.out)
  have HV0 : Hid (0 < val lv) := by
    show 0 < val lv
    have h1 := HLVT.out
    have h2 := val_take_succ lv (m - 1)
    rw [val_take_all (by rw [HLVL.out]; omega)] at h2
    have h3 : 1 * 1 ≤ Bs ^ (m - 1) * lv.getD (m - 1) 0 := Nat.mul_le_mul (Bs_pow_pos _) h1
    omega
  have HBASE : Hid (w.heap.size ≤ gu ∧ w.heap.size ≤ gv ∧ w.heap.size ≤ w2.heap.size) := ⟨HGU.out, Nat.le_trans HR1.out.size HGV.out, HR2.out.size⟩
  clear hlv HST
  clear hmk hctd
  go_loopw [12] (fun i wr => DivR w gu gv w2.heap.size k0 lu lv i wr) (fun i _ => (intOf i + 1).toNat)
  case atStart =>
    exact ⟨k0, lu, List.replicate k0 0, Nat.le_refl _, rfl, rfl, HDU.out, HBU2.out.keep (below_alloc _ _), HBVL.out.keep (below_alloc _ _), by simp, Dl.zeros _, HQ0.out, by rw [List.drop_of_length_le (by simp)]; simp [val], by rw [HLVV.out]; exact HLT0.out, HR2.out.alloc HBASE.out.2.2 _⟩
  case round =>
    obtain ⟨k, lx, q', hk, rfl, hlx, hdx, hbx, hbv, hql, hqd, hrow, hinv, hlt, hbel⟩ := hrel
    have HX1 := Lib.hid hlx
    have HX2 := Lib.hid hdx
    have HX3 := Lib.hid hbx
    have HX4 := Lib.hid hbv
    have HX5 := Lib.hid hql
    have HX6 := Lib.hid hqd
    have HX7 := Lib.hid hrow
    have HX8 := Lib.hid hinv
    have HX9 := Lib.hid hlt
    have HXB := Lib.hid hbel
    clear hlx hdx hbx hbv hql hqd hrow hinv hlt hbel
    rcases Nat.eq_zero_or_pos k with h0 | h0
    · subst h0
      rw [show (((0 : Nat) : Int) - 1) = -1 from rfl]
      go_wp2_with fail
      have HTK : Hid (val (lx.take m) = val lx) := take_val (by rw [HX1.out, HLU.out]; omega) (by
        have h1 := HX9.out
        have h2 := val_lt HLVD.out
        rw [List.drop_zero] at h1
        rw [HLVL.out] at h2
        omega)
      have HSH : Hid (Calls Tryz.prog 222 #[.slice (some ⟨gu, 0, none⟩) m cu, .int .i64 (f : Int)] wr (RetSh (lx.take m) f wr)) :=
        sho_any _ m cu f (lx.take m) wr (by omega) hf0 (by omega) (by rw [List.length_take, HX1.out, HLU.out]; omega) (HX3.out.lc.take m) (HX2.out.take m)
      (with_reducible refine HSH.out.mono ?_)
      rintro e w8 ⟨v8, q8, r8, rfl, hv8, hql8, hval8, hr8, hB8⟩
      have HV8 := Lib.hid hv8
      have HQL8 := Lib.hid hql8
      have HVA8 := Lib.hid hval8
      have HR8 := Lib.hid hr8
      have HB8 := Lib.hid hB8
      clear hv8 hql8 hval8 hr8 hB8
      go_wp2_with fail
      go_ret2
      have hfin := div_end (x := val la) (y := val lb) (f := f) (Q := val q') (lx := val lx) (q8 := val q8) (r8 := r8) (by
        have h1 := HX8.out
        rw [List.drop_zero, Nat.pow_zero, Nat.one_mul, HVU.out, HLVV.out] at h1
        exact h1) (by
        have h1 := HX9.out
        rw [List.drop_zero, HLVV.out] at h1
        exact h1) (by rw [← HTK.out]; exact HVA8.out) HR8.out
      exact ⟨.slice (some ⟨w2.heap.size, 0, none⟩) k0 k0, v8, q', q8, rfl, ⟨some ⟨w2.heap.size, 0, none⟩, k0, by rw [HX5.out], by rw [HX5.out]; omega, HX6.out, (HX7.out.keep HB8.out).lc⟩, HV8.out, hfin.1, hfin.2, by rw [HX5.out]; omega, by rw [HQL8.out, List.length_take]; omega, HXB.out.trans (HB8.out.mono HXB.out.size)⟩
    · obtain ⟨j, rfl⟩ : ∃ j, k = j + 1 := ⟨k - 1, by omega⟩
      have ej : (((j + 1 : Nat) : Int) - 1) = (j : Int) := by omega
      rw [ej]
      clear ej h0
      have hj : j < k0 := by omega
      have HXL : Hid (lx.length = k0 + m) := by
        show lx.length = k0 + m
        rw [HX1.out, HLU.out]; omega
      have HW := Lib.hid (win_facts HXL.out HX2.out HLVL.out HLVD.out hj HX9.out)
      have cu1 := HX3.out.cell (i := j + m) (by rw [HXL.out]; omega)
      have cu2 := HX3.out.cell (i := j + m - 1) (by rw [HXL.out]; omega)
      have cv1 := HX4.out.cell (i := m - 1) (by rw [HLVL.out]; omega)
      obtain ⟨U1, hU1⟩ : ∃ U1, lx.getD (j + m) 0 = U1 := ⟨_, rfl⟩
      obtain ⟨U0, hU0⟩ : ∃ U0, lx.getD (j + m - 1) 0 = U0 := ⟨_, rfl⟩
      obtain ⟨V1, hV1⟩ : ∃ V1, lv.getD (m - 1) 0 = V1 := ⟨_, rfl⟩
      rw [hU1] at cu1
      rw [hU0] at cu2
      rw [hV1] at cv1
      have bU1 : U1 < 1073741824 := by have := HX2.out.getD (j + m); rw [Bs_eq, hU1] at this; exact this
      have bU0 : U0 < 1073741824 := by have := HX2.out.getD (j + m - 1); rw [Bs_eq, hU0] at this; exact this
      have bV1 : V1 < 1073741824 := by have := HLVD.out.getD (m - 1); rw [Bs_eq, hV1] at this; exact this
      have bV0 : 0 < V1 := by rw [← hV1]; exact HLVT.out
      have HU1 := Lib.hid hU1
      have HU0 := Lib.hid hU0
      have HV1 := Lib.hid hV1
      clear hU1 hU0 hV1
      obtain ⟨T, hT⟩ : ∃ T, U1 * 1073741824 + U0 = T := ⟨_, rfl⟩
      have hTI : (U1 : Int) * 1073741824 + (U0 : Int) = (T : Int) := by omega
      have hTb : T ≤ 1152921504606846976 := by omega
      have HTT := Lib.hid hT
      clear hT
      have hs1 : (j : Int) + (m : Int) < (k0 : Int) + (m : Int) := by omega
      have hs2 : (0 : Int) ≤ (j : Int) + (m : Int) - 1 := by omega
      have hs3 : ((j : Int) + (m : Int)).toNat = j + m := by omega
      have hs4 : ((j : Int) + (m : Int) - 1).toNat = j + m - 1 := by omega
      have hs5 : (0 : Int) ≤ (m : Int) - 1 := by omega
      have hs6 : ((m : Int) - 1).toNat = m - 1 := by omega
      go_wp2_with fail
      go_quiet (fail)
      go_wp2_with fail
      obtain ⟨Wv, hWv⟩ : ∃ Wv, val (lx.drop j) = Wv := ⟨_, rfl⟩
      obtain ⟨V, hVV⟩ : ∃ V, val lv = V := ⟨_, rfl⟩
      have HWV := Lib.hid hWv
      have HVL := Lib.hid hVV
      have HVp : Hid (0 < V) := by rw [← hVV]; exact HV0.out
      obtain ⟨E0, hE0⟩ : ∃ E0, min (T / V1) 1073741823 = E0 := ⟨_, rfl⟩
      have hE : min (wrap64 ((T : Int) / (V1 : Int))) 1073741823 = (E0 : Int) := min_int hTb hE0
      have HE12 : Wv / V ≤ E0 ∧ E0 ≤ 1073741823 := by
        refine min_facts hE0 ?_ ?_
        rotate_left
        · rw [← Bs_eq, Nat.div_lt_iff_lt_mul HVp.out, ← hWv, ← hVV]
          exact HW.out.2.2.2.1
        have h1 := est_le HW.out.2.1 (m := m - 1) (by rw [HW.out.1]; omega) (by rw [HLVL.out]; omega) HLVT.out
        rw [HW.out.2.2.1, hWv, hVV] at h1
        have e1 : ((lx.drop j).take (m + 1)).getD (m - 1 + 1) 0 = U1 := by
          rw [getD_take (by omega), getD_drop, ← HU1.out]
          congr 1; omega
        have e2 : ((lx.drop j).take (m + 1)).getD (m - 1) 0 = U0 := by
          rw [getD_take (by omega), getD_drop, ← HU0.out]
          congr 1; omega
        rw [e1, e2, HV1.out, Bs_eq, HTT.out] at h1
        exact h1
      have HE1 := Lib.hid HE12.1
      have HE2 := HE12.2
      rw [hE]
      obtain ⟨wo, hwo⟩ : ∃ wo, wo = wr := ⟨_, rfl⟩
      subst hwo
      clear HE12
      clear hE hE0 hTI hTb hs1 hs2 hs3 hs4 hs5 hs6 cu1 cu2 cv1 bU1 bU0 bV1 bV0 hWv hVV HTT HU1 HU0 HV1
      go_loopw [13] (fun e wx => ∃ E : Nat, e = .int .i64 (E : Int) ∧ Hid (Wv / V ≤ E) ∧ E ≤ 1073741823 ∧ Below wo.heap.size wo wx) (fun e _ => (intOf e).toNat)
      case atStart => exact ⟨E0, rfl, HE1.out, HE2, (Drn.more (Drn.refl wo) _).below _⟩
      case round =>
        obtain ⟨E, rfl, hE, hE2, hbx⟩ := hrel
        have HBX := Lib.hid hbx
        clear hbx
        have HSC : Hid (∀ wy, Below wo.heap.size wo wy → Calls Tryz.prog 223 #[.slice (some ⟨gv, 0, none⟩) m cv, .int .i64 (E : Int)] wy (RetL (fun l => l.length = m + 1 ∧ val l = val lv * E) wy)) := fun wy hb => sca_any _ m cv E lv wy (by omega) (by omega) HLVL.out (HX4.out.keep hb).lc HLVD.out
        go_wp2_with fail
        (with_reducible refine (HSC.out _ HBX.out).mono ?_)
        rintro e w3 ⟨vp, lp, rfl, hlp, ⟨hlp1, hlp2⟩, hB3⟩
        obtain ⟨Ap, cp, rfl, hcp, hdp, hCp⟩ := hlp
        rw [hlp1] at hcp ⊢
        have HLP1 := Lib.hid hlp1
        have HLP2 := Lib.hid hlp2
        have HCP := Lib.hid hcp
        have HDP := Lib.hid hdp
        have HCp := Lib.hid hCp
        have HB3 := Lib.hid (stepB HBX.out hB3)
        clear hlp1 hlp2 hcp hdp hCp hB3
        go_upto_region 15 with fail
        have HTR1 : Hid (∀ wy, Below w3.heap.size w3 wy → Calls Tryz.prog 224 #[.slice Ap (m + 1) cp] wy fun e w' => ∃ k, e = .returned (.slice Ap k cp) ∧ k ≤ m + 1 ∧ Nz (lp.take k) ∧ val (lp.take k) = val lp ∧ wy = w') := fun wy hb => by
          have h := rtrim_any Ap cp lp wy (by rw [HLP1.out]; exact HCP.out.1) HCP.out.2 (HCp.out.keep hb)
          rw [HLP1.out] at h
          exact h
        obtain ⟨i0, hi, hz0, hz1, hz2⟩ := info_parts info3
        obtain ⟨win, hwin⟩ : ∃ win, (lx.drop j).take (m + 1) = win := ⟨_, rfl⟩
        have HWN1 : Hid (win.length = m + 1) := by rw [← hwin]; exact HW.out.1
        have HWN2 : Hid (Dl win) := by rw [← hwin]; exact HW.out.2.1
        have HWN3 : Hid (val win = Wv) := by rw [← hwin, ← HWV.out]; exact HW.out.2.2.1
        have HWC : Hid (∀ wy, Below w3.heap.size w3 wy → Lc wy (some ⟨gu, j, none⟩) win) := fun wy hb => by
          rw [← hwin]
          have h := (((HX3.out.keep (stepB HB3.out hb)).lc).drop j).take (m + 1)
          rw [Nat.zero_add] at h
          exact h
        clear hwin
        have hs1 : (0 : Int) ≤ (j : Int) + (m : Int) + 1 := by omega
        have hs2 : (j : Int) ≤ (j : Int) + (m : Int) + 1 := by omega
        have hs3 : (j : Int) + (m : Int) + 1 ≤ (cu : Int) := by omega
        have hs4 : ((j : Int) + (m : Int) + 1).toNat = j + (m + 1) := by omega
        have hs5 : IntKind.i64.wrap ((j : Int) + (m : Int)) = (j : Int) + (m : Int) := IntWalk.i64_in _ (by omega)
        have hs6 : IntKind.i64.wrap ((j : Int) + (m : Int) + 1) = (j : Int) + (m : Int) + 1 := IntWalk.i64_in _ (by omega)
        have hs7 : ¬ cu = j := by omega
        have hs8 : ¬ j = cu := by omega
        go_region_held3 (fun w' => True) (trivial)
          (first
            | (go_at_call 224; (with_reducible refine (HTR1.out _ (by repeat (first | exact Below.refl _ _ | refine Below.drew ?_ | refine Below.alloc ?_ (Nat.le_refl _) _))).mono ?_); rintro e w4 ⟨k1, rfl, hk1', hnz1, hval1, rfl⟩; have HK1 := Lib.hid hk1'; have HNZ1 := Lib.hid hnz1; have HVA1 := Lib.hid hval1; clear hk1' hnz1 hval1)
            | (go_at_call 224; (with_reducible refine (rtrim_win HWN1.out HLC5.out HC5.out).mono ?_); rintro e w6 ⟨k2, rfl, hk2', hnz2, hval2, rfl⟩; have HK2 := Lib.hid hk2'; have HNZ2 := Lib.hid hnz2; have HVA2 := Lib.hid hval2; clear hk2' hnz2 hval2)
            | (go_at_call 156; (with_reducible refine (rcmp_any Ap A5 k1 k2 cp c5 (lp.take k1) (win.take k2) _ (by have := HK1.out; omega) (by rw [List.length_take, HLP1.out]; have := HK1.out; omega) (by rw [List.length_take, HWN1.out]; have := HK2.out; omega) ((HCp.out.keep HB5.out).take k1) (HC5.out.take k2) (HDP.out.take k1) (HWN2.out.take k2) HNZ1.out HNZ2.out).mono ?_); rintro e w7 ⟨rfl, hdr7⟩; have HDR7 := Lib.hid hdr7; clear hdr7)
            | (refine step_append_grows rfl (.tmp 95) (.tmp 102) 25 rfl 3 i0 (.int .i64 0) 1 8 Tryz.underlying25 hi hz0 hz1 hz2 rfl (by decide) _ 0 0 [] rfl (fun h => by cases h) rfl (fun _ _ _ _ h => by simp at h) ⟨gu, j, none⟩ (m + 1) (cu - j) (win.map fun (d : Nat) => .int .i64 (d : Int)) (by first | rfl | (simp [Act.eval]; done) | (simp [Act.eval]; omega)) (by rw [List.length_map, HWN1.out]; omega) (Lc.cells (HWC.out _ (by repeat (first | exact Below.refl _ _ | refine Below.drew ?_ | refine Below.alloc ?_ (Nat.le_refl _) _)))) (fun u hu => by obtain ⟨x, _, rfl⟩ := List.mem_map.1 hu; rfl) (by omega) (by unfold maxLen; omega) (by omega) ?_; intro v' w5 hown5 hgrow5; have hO5 : Own w5 _ v' win := own_of hown5 HWN1.out; obtain ⟨A5, c5, rfl, hlc5, hd5, hC5⟩ := hO5.ls HWN2.out; rw [HWN1.out] at hlc5 ⊢; have HB5 := Lib.hid (Below.grown (B := w3.heap.size) (a := w3) (by repeat (first | exact Below.refl _ _ | refine Below.drew ?_ | refine Below.alloc ?_ (Nat.le_refl _) _)) hgrow5 (by simp) (fun k hk => by cases hk)); have HLC5 := Lib.hid hlc5; have HC5 := Lib.hid hC5; clear hown5 hgrow5 hO5 hlc5 hd5 hC5))
        all_goals
          have HB7 := Lib.hid (stepB HB5.out (HDR7.out.below _))
          have HB73 := Lib.hid (stepB HB3.out HB7.out)
          obtain ⟨cc, hcc⟩ : ∃ cc, cmpN (val (lp.take k1)) (val (win.take k2)) = cc := ⟨_, rfl⟩
          rw [hcc]
          have hc2 : cmpN (V * E) Wv = cc := by
            rw [← hcc, HVA1.out, HVA2.out, HLP2.out, HWN3.out, HVL.out]
          clear hcc
          by_cases hle : V * E ≤ Wv
          · have hd0 : decide (cc ≤ 0) = true := by rw [← hc2]; exact cmp_le_of hle
            have hd1 : cc ≤ 0 := of_decide_eq_true hd0
            have HEQ : Hid (E = Wv / V) := by
              have h1 := hE.out
              have h2 : E ≤ Wv / V := by rw [Nat.le_div_iff_mul_le HVp.out, Nat.mul_comm]; exact hle
              show E = Wv / V
              omega
            have HLE := Lib.hid hle
            clear hc2 hle
            have HDF : Hid (Calls Tryz.prog 157 #[.slice (some ⟨gu, j, none⟩) (m + 1) (cu - j), .slice Ap (m + 1) cp] w7 (RetL (fun l => l.length = m + 1 ∧ val l + val lp = val win) w7)) :=
              dif_any _ Ap (m + 1) (m + 1) _ cp win lp w7 (by omega) (Nat.le_refl _) HWN1.out HLP1.out (HDR7.out.lc (HWC.out _ HB5.out)) (HDR7.out.lc (HCp.out.keep HB5.out)) HWN2.out HDP.out (by rw [HLP2.out, HWN3.out, HVL.out]; exact HLE.out)
            go_wp2_with fail
            (with_reducible refine HDF.out.mono ?_)
            rintro e w8 ⟨vd, ld, rfl, hld, ⟨hld1, hld2⟩, hB8⟩
            obtain ⟨Ad, cd, rfl, hcd, hdd, hCd⟩ := hld
            have HLD1 := Lib.hid hld1
            have HLD2 := Lib.hid hld2
            have HDD := Lib.hid hdd
            have HCd := Lib.hid hCd
            have HB8 := Lib.hid (stepB HB73.out hB8)
            have HU8 := Lib.hid (HX3.out.keep HB8.out)
            have HV8 := Lib.hid (HX4.out.keep HB8.out)
            have HQ8 := Lib.hid (HX7.out.keep HB8.out)
            have HS8 := Lib.hid (HXB.out.trans (HB8.out.mono HXB.out.size))
            clear hld1 hld2 hcd hdd hCd hB8
            have hs9 : (j : Int) ≤ (k0 : Int) + (m : Int) := by omega
            go_wp2_with ((with_reducible refine wpList_copy_buf rfl (.tmp 118) (.tmp 119) rfl gu j (k0 + m - j) (cu - j) ld lx Ad cd rfl rfl HCd.out (by rw [HLD1.out]; omega) (by rw [HLD1.out]; omega) HU8.out (by rw [HLD1.out, HXL.out]; omega) (fun w9 hbuf9 hoth9 hbel9 => ?_)); have HBF9 := Lib.hid hbuf9; have HOT9 := Lib.hid hoth9; have HBL9 := Lib.hid (hbel9 _ _ HS8.out HBASE.out.1); have HQ9 := Lib.hid (HQ8.out.block (hoth9 _ hgq1.out.symm)); have HV9 := Lib.hid (HV8.out.block (hoth9 _ huv.out.symm)); have c9 := HQ9.out.cell (i := j) (by rw [HX5.out]; exact hj); have f9 := HQ9.out.frozen j; clear hbuf9 hoth9 hbel9)
            have hrf := round_facts (e := E) (q := q') (lu0 := lu) HXL.out HX2.out hj HX5.out HLD1.out HDD.out HV0.out (by rw [HWV.out, HVL.out]; exact HEQ.out) (by rw [HVL.out, HWV.out]; have h1 := HLD2.out; rw [HLP2.out, HVL.out, HWN3.out] at h1; exact h1) HW.out.2.2.2.2 HX8.out
            exact ⟨⟨j, splice lx j ld, q'.set j E, by omega, rfl, hrf.1.trans HX1.out, hrf.2.1, HBF9.out.block (Below.heap_setCell _ _ _ _ hgq1.out), HV9.out.block (Below.heap_setCell _ _ _ _ hgq2.out), by rw [List.length_set]; exact HX5.out, HX6.out.set _ (by rw [Bs_eq]; omega), HQ9.out.set (by rw [HX5.out]; exact hj) E, hrf.2.2.1, hrf.2.2.2, HBL9.out.setCell HBASE.out.2.2 _⟩, by simp [intOf]⟩
          · have hd0 : decide (cc ≤ 0) = false := by rw [← hc2]; exact cmp_nle_of (Nat.lt_of_not_le hle)
            have hE3 : Wv / V < E := by
              rw [Nat.div_lt_iff_lt_mul HVp.out, Nat.mul_comm]
              omega
            have hd1 : ¬ cc ≤ 0 := of_decide_eq_false hd0
            have hE4 : 0 < (E : Int) := Int.ofNat_lt.2 (Nat.lt_of_le_of_lt (Nat.zero_le _) hE3)
            have HE3 := Lib.hid hE3
            clear hc2 hle hE3
            go_wp2_with fail
            go_roundw
            case rel => exact ⟨E - 1, int_eq (by omega), Nat.le_sub_one_of_lt HE3.out, by omega, HB73.out⟩
            case measure => simp [intOf]; omega
end Go.Proofs.YtmfnpipmbpnfbaaGreatDoor
