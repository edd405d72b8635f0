/- Lists of digits of the reference in memory. -/
import Derived.Test.YtmfnpipmbpnfbaaGreatDoorF00
import Derived.Test.YtmfnpipmbpnfbaaGreatDoorF05
import Derived.Laws.AppendOwn
import Derived.IntWalk
import Derived.LoopTactic
import Derived.Deep.CutRange
import Derived.Deep.CutBlock
import Derived.Deep.DeepCutAuto
import Derived.Test.YtmfnpipmbpnfbaaGreatDoorF01

set_option maxRecDepth 100000
set_option maxHeartbeats 40000000
namespace Go.Proofs.YtmfnpipmbpnfbaaGreatDoor
open Go.RowKit
def Lc (w : World) (A : Option Addr) (l : List Nat) : Prop :=
  0 < l.length → ∃ b off, A = some ⟨b, off, none⟩ ∧ Bx w b 3 ∧ ∀ i, i < l.length → w.cell? ⟨b, off + i, none⟩ = some (.int .i64 ((l.getD i 0 : Nat) : Int))
theorem Bx.lt {w : World} {b T : Nat} (h : Bx w b T) : b < w.heap.size := by
  obtain ⟨cs, fr, hc⟩ := h
  exact lt_of_heap hc
theorem Lc.keep {w w' : World} {A : Option Addr} {l : List Nat} (h : Lc w A l) (hb : Below w.heap.size w w') : Lc w' A l := by
  intro hn
  obtain ⟨b, off, hA, hx, hc⟩ := h hn
  exact ⟨b, off, hA, hx.keep hb, fun i hi => (hb.cell (p := ⟨b, off + i, none⟩) hx.lt).trans (hc i hi)⟩
theorem Lc.nil (w : World) (A : Option Addr) : Lc w A [] := fun h => by simp at h
theorem Lc.take {w : World} {A : Option Addr} {l : List Nat} (h : Lc w A l) (k : Nat) : Lc w A (l.take k) := by
  intro hn
  rw [List.length_take] at hn
  obtain ⟨b, off, hA, hx, hc⟩ := h (by omega)
  refine ⟨b, off, hA, hx, fun i hi => ?_⟩
  rw [List.length_take] at hi
  rw [getD_take (by omega)]
  exact hc i (by omega)
theorem Lc.set {w : World} {A : Option Addr} {l : List Nat} (h : Lc w A l) {k T : Nat} (hb : Bx w k T) (hT : T ≠ 3) (o : Nat) (u : Value) : Lc (w.setCell ⟨k, o, none⟩ u) A l := by
  intro hn
  obtain ⟨b, off, hA, hx, hc⟩ := h hn
  have hne : b ≠ k := by
    rintro rfl
    obtain ⟨cs, fr, h1⟩ := hx
    obtain ⟨cs', fr', h2⟩ := hb
    rw [h1] at h2
    injection h2 with h2
    injection h2 with _ h2
    exact hT h2.symm
  have e : (w.setCell ⟨k, o, none⟩ u).heap[b]? = w.heap[b]? := Below.heap_setCell _ _ _ _ hne
  exact ⟨b, off, hA, hx.set _ _ _, fun i hi => (World.cell?_of_block (w := w) (a := ⟨b, off + i, none⟩) e).trans (hc i hi)⟩
def Ls (w : World) (v : Value) (l : List Nat) : Prop := ∃ A c, v = .slice A l.length c ∧ (l.length ≤ c ∧ c ≤ 9223372036854775807) ∧ Dl l ∧ Lc w A l
theorem Ls.keep {w w' : World} {v : Value} {l : List Nat} (h : Ls w v l) (hb : Below w.heap.size w w') : Ls w' v l := by
  obtain ⟨A, c, h1, h2, h3, h4⟩ := h
  exact ⟨A, c, h1, h2, h3, h4.keep hb⟩
theorem Ls.set {w : World} {v : Value} {l : List Nat} (h : Ls w v l) {k T : Nat} (hb : Bx w k T) (hT : T ≠ 3) (o : Nat) (u : Value) : Ls (w.setCell ⟨k, o, none⟩ u) v l := by
  obtain ⟨A, c, h1, h2, h3, h4⟩ := h
  exact ⟨A, c, h1, h2, h3, h4.set hb hT o u⟩
def RetL (P : List Nat → Prop) (w : World) (e : Ending) (w' : World) : Prop := ∃ v l, e = .returned v ∧ Ls w' v l ∧ P l ∧ Below w.heap.size w w'
def Own (w : World) (B : Nat) (v : Value) (l : List Nat) : Prop := w.ownsRow B 3 1 v l.length (l.map fun (d : Nat) => .int .i64 (d : Int))
theorem Own.nil (w : World) (B : Nat) : Own w B (.slice none 0 0) [] := World.ownsRow_nil w B 3 1
theorem Own.alloc {w : World} {B : Nat} {v : Value} {l : List Nat} (h : Own w B v l) (o : Obj) : Own (w.alloc o) B v l := World.ownsRow.alloc h o
theorem Own.ls {w : World} {B : Nat} {v : Value} {l : List Nat} (h : Own w B v l) (hd : Dl l) : Ls w v l := by
  have h0 := h
  rcases h.2 with ⟨rfl, hn⟩ | ⟨g, cap, cur, rfl, _, hg, hcap, hcm, _⟩
  · have : l = [] := List.eq_nil_of_length_eq_zero hn
    subst this
    exact ⟨none, 0, rfl, ⟨Nat.le_refl _, Nat.zero_le _⟩, hd, Lc.nil w _⟩
  · refine ⟨some ⟨g, 0, none⟩, cap, rfl, ⟨hcap, by unfold maxLen at hcm; omega⟩, hd, fun hn => ⟨g, 0, rfl, ⟨cur, (0, 0), hg⟩, fun i hi => ?_⟩⟩
    have hc := World.ownsRow.cells h0 (g := g) rfl i (.int .i64 ((l.getD i 0 : Nat) : Int)) (by
      simp [List.getElem?_map, List.getD_eq_getElem?_getD, List.getElem?_eq_getElem hi])
    have hadd : (⟨g, 0, none⟩ : Addr).add i = ⟨g, 0 + i, none⟩ := by unfold Addr.add; split <;> simp_all
    rw [hadd] at hc
    exact hc
theorem cell_new (w : World) (u : Value) (T : Nat) : (w.alloc (.cells #[u] T)).cell? ⟨w.heap.size, 0, none⟩ = some u := by simp [go_sem]
theorem int_eq {k : IntKind} {a b : Int} (h : a = b) : Value.int k a = .int k b := by rw [h]
theorem info3 : (Tryz.prog.info? 3).map (fun i => (i.zero, i.size, i.bytes)) = some (some (.int .i64 0), 1, 8) := by kernel_rfl
theorem wpList_push {ops : Array Oper} {rest : List Oper} {o : Oper} {a : Act} {w : World} {Q : Exit → Act → World → Prop} (hgd : o.guard = none) (s x : Operand)
    (ho : o.op = .call { callee := .builtin .append, args := #[s, x], argTypes := #[25, 25] })
    (B : Nat) (v : Value) (l : List Nat) (hs : a.eval s = v) (hown : Own w B v l) (g : Nat) (hx : a.eval x = .slice (some ⟨g, 0, none⟩) 1 1) (X : Int) (hc : w.cell? ⟨g, 0, none⟩ = some (.int .i64 X)) (d : Nat) (hX : X = (d : Int))
    (hl : l.length ≤ 1000000) (hB : B ≤ w.heap.size)
    (h : ∀ v' w', Own w' B v' (l ++ [d]) → (∀ X0 : World, Below B X0 w → Below B X0 w') → wpList Tryz.prog ops Q rest (a.put o.dst v') w') : wpList Tryz.prog ops Q (o :: rest) a w := by
  obtain ⟨i0, hi, hz0, hz1, hz2⟩ := info_parts info3
  refine wpList_append_own w hgd s x 25 ho B 3 i0 (.int .i64 0) 1 8 Tryz.underlying25 hi hz0 hz1 hz2 rfl (by decide) v l.length _ hs hown ⟨g, 0, none⟩ 1 1 [.int .i64 (d : Int)] hx rfl ?_ ?_ ?_ ?_ hB ?_
  · intro j u hj
    match j, hj with
    | 0, hj =>
      simp at hj
      subst hj
      rw [← hX]
      simpa [Addr.add] using hc
  · intro u hu
    simp at hu
    subst hu
    rfl
  · unfold maxLen; omega
  · omega
  · intro v' w' h1 h2 _
    refine h v' w' ?_ (fun X0 hX0 => Below.grown hX0 h2 hB (fun k hk => (World.ownsRow.lt hown k hk).1))
    unfold Own
    rw [List.length_append, List.map_append]
    exact h1
theorem Drn.lc {w w' : World} (h : Drn w w') {A : Option Addr} {l : List Nat} (hd : Lc w A l) : Lc w' A l := by obtain ⟨q, rfl⟩ := h; exact hd
theorem rtrim_any (A : Option Addr) (c : Nat) (l : List Nat) (w : World) (hn : l.length ≤ c) (hc : c ≤ 9223372036854775807) (hA : Lc w A l) :
    Calls Tryz.prog 224 #[.slice A l.length c] w fun e w' => ∃ k, e = .returned (.slice A k c) ∧ k ≤ l.length ∧ Nz (l.take k) ∧ val (l.take k) = val l ∧ w = w' := by
  obtain ⟨n, hln⟩ : ∃ n, l.length = n := ⟨_, rfl⟩
  have HL := Lib.hid hln
  rw [hln] at hn ⊢
  clear hln
  go_enter Tryz.func224, Tryz.ntmps224
  go_wp2
  go_loop [0] (fun s => ∃ k : Nat, k ≤ n ∧ s = .slice A k c ∧ Hid (val (l.take k) = val l)) (fun s => slen s)
  case atStart => exact ⟨n, Nat.le_refl _, rfl, by rw [← HL.out]; exact val_take_all (Nat.le_refl _)⟩
  case round =>
    obtain ⟨k, hk, rfl, hv⟩ := hrel
    rcases Nat.eq_zero_or_pos k with h0 | h0
    · subst h0
      go_wp2
      go_ret
      exact ⟨0, rfl, hk, Or.inl rfl, hv.out, rfl⟩
    · obtain ⟨b, off, hA', hb, hcell⟩ := hA (by rw [HL.out]; omega)
      subst hA'
      have hcell1 := hcell (k - 1) (by rw [HL.out]; omega)
      clear hcell
      obtain ⟨x, hx⟩ : ∃ x, l.getD (k - 1) 0 = x := ⟨_, rfl⟩
      rw [hx] at hcell1
      have HX := Lib.hid hx
      clear hx
      by_cases hz : x = 0
      · have hv2 : Hid (val (l.take (k - 1)) = val l) := by
          have := hv.out
          obtain ⟨m, rfl⟩ : ∃ m, k = m + 1 := ⟨k - 1, by omega⟩
          rw [val_take_succ] at this
          have h2 := HX.out
          simp only [Nat.add_sub_cancel] at h2 ⊢
          rw [h2, hz] at this
          show val (l.take m) = val l
          simpa using this
        subst hz
        go_wp2
        exact ⟨⟨k - 1, by omega, rfl, hv2⟩, by simp [slen]; omega⟩
      · have hz2 : ((x : Int) == 0) = false := by simpa using hz
        have HZ := Lib.hid hz
        clear hz
        go_wp2
        go_ret
        refine ⟨k, rfl, hk, Or.inr ?_, hv.out, rfl⟩
        rw [List.length_take, Nat.min_eq_left (by rw [HL.out]; exact hk), getD_take (by omega), HX.out]
        exact HZ.out
theorem rcmp_same (A B : Option Addr) (n ca cb : Nat) (la lb : List Nat) (w : World) (hn : n ≤ 1000000) (hla : la.length = n) (hlb : lb.length = n) (hA : Lc w A la) (hB : Lc w B lb) (ha : Dl la) (hb : Dl lb) :
    Calls Tryz.prog 156 #[.slice A n ca, .slice B n cb] w fun e w' => e = .returned (.int .i64 (cmpN (val la) (val lb))) ∧ Drn w w' := by
  have HLA := Lib.hid hla
  have HLB := Lib.hid hlb
  have HDA := Lib.hid ha
  have HDB := Lib.hid hb
  clear hla hlb ha hb
  go_enter Tryz.func156, Tryz.ntmps156
  go_wp2_with fail
  go_loopw [5] (fun i wr => ∃ k : Nat, k ≤ n ∧ i = .int .i64 ((k : Int) - 1) ∧ Hid (la.drop k = lb.drop k) ∧ Drn w wr) (fun i _ => (intOf i + 1).toNat)
  case atStart => exact ⟨n, Nat.le_refl _, rfl, by show la.drop n = lb.drop n; rw [List.drop_of_length_le (by rw [HLA.out]; omega), List.drop_of_length_le (by rw [HLB.out]; omega)], Drn.refl w⟩
  case round =>
    obtain ⟨k, hk, rfl, hs, hq⟩ := hrel
    rcases Nat.eq_zero_or_pos k with h0 | h0
    · subst h0
      have HE : Hid (cmpN (val la) (val lb) = 0) := by
        have : la = lb := hs.out
        rw [this]; exact cmpN_eq _
      rw [show (((0 : Nat) : Int) - 1) = -1 from rfl]
      go_wp2_with fail
      go_ret
      exact ⟨by rw [HE.out]; rfl, hq⟩
    · obtain ⟨b, off, rfl, hb, hcells⟩ := hA (by rw [HLA.out]; omega)
      obtain ⟨b', off', rfl, hb', hcells'⟩ := hB (by rw [HLB.out]; omega)
      obtain ⟨j, rfl⟩ : ∃ j, k = j + 1 := ⟨k - 1, by omega⟩
      have hc1 := (hq.cell ⟨b, off + j, none⟩).trans (hcells j (by rw [HLA.out]; omega))
      have hc2 := (hq.cell ⟨b', off' + j, none⟩).trans (hcells' j (by rw [HLB.out]; omega))
      have hjn : (j : Int) < (n : Int) := by omega
      clear hcells hcells'
      have ej : (((j + 1 : Nat) : Int) - 1) = (j : Int) := by omega
      rw [ej]
      clear ej h0
      obtain ⟨x, hx⟩ : ∃ x, la.getD j 0 = x := ⟨_, rfl⟩
      obtain ⟨y, hy⟩ : ∃ y, lb.getD j 0 = y := ⟨_, rfl⟩
      rw [hx] at hc1
      rw [hy] at hc2
      have HX := Lib.hid hx
      have HY := Lib.hid hy
      clear hx hy
      rcases Nat.lt_trichotomy x y with h | h | h
      · have HE : Hid (cmpN (val la) (val lb) = -1) := cmpN_lt (lt_of_top HDA.out (by rw [HLA.out, HLB.out]) (by rw [HLA.out]; omega) hs.out (by rw [HX.out, HY.out]; exact h))
        have hd : decide ((x : Int) < (y : Int)) = true := decide_eq_true (by omega)
        go_wp2_with fail
        go_quiet (fail)
        go_wp2_with fail
        go_ret
        exact ⟨by rw [HE.out]; rfl, hq.more _⟩
      · subst h
        have hs2 : Hid (la.drop j = lb.drop j) := drop_step (by rw [HLA.out]; omega) (by rw [HLA.out, HLB.out]) hs.out (by rw [HX.out, HY.out])
        go_wp2_with fail
        go_quiet (fail)
        go_wp2_with fail
        go_quiet (fail)
        go_wp2_with fail
        exact ⟨⟨j, by omega, rfl, hs2, (by first | exact hq.more _ | exact (hq.more _).more _)⟩, by simp [intOf]⟩
      · have HE : Hid (cmpN (val la) (val lb) = 1) := cmpN_gt (lt_of_top (a := lb) (b := la) HDB.out (by rw [HLA.out, HLB.out]) (by rw [HLB.out]; omega) hs.out.symm (by rw [HX.out, HY.out]; exact h))
        have hd : ¬ (x : Int) < (y : Int) := by omega
        go_wp2_with fail
        go_quiet (fail)
        go_wp2_with fail
        go_quiet (fail)
        go_wp2_with fail
        go_ret
        exact ⟨by rw [HE.out]; rfl, (by first | exact hq.more _ | exact (hq.more _).more _)⟩
theorem rcmp_any (A B : Option Addr) (n m ca cb : Nat) (la lb : List Nat) (w : World) (hn : n ≤ 1000000) (hla : la.length = n) (hlb : lb.length = m) (hA : Lc w A la) (hB : Lc w B lb) (ha : Dl la) (hb : Dl lb) (hna : Nz la) (hnb : Nz lb) :
    Calls Tryz.prog 156 #[.slice A n ca, .slice B m cb] w fun e w' => e = .returned (.int .i64 (cmpN (val la) (val lb))) ∧ Drn w w' := by
  rcases Nat.lt_trichotomy n m with h | h | h
  · have HE : Hid (cmpN (val la) (val lb) = -1) := cmpN_lt (lt_of_len ha hnb (by omega))
    have h2 : ((n : Int) != (m : Int)) = true := by rw [bne_iff_ne]; omega
    rw [HE.out]
    clear HE ha hb hna hnb hA hB hla hlb
    go_enter Tryz.func156, Tryz.ntmps156
    go_wp2_with fail
    go_ret
    exact ⟨rfl, Drn.refl w⟩
  · subst h
    exact rcmp_same A B n ca cb la lb w hn hla hlb hA hB ha hb
  · have HE : Hid (cmpN (val la) (val lb) = 1) := cmpN_gt (lt_of_len hb hna (by omega))
    have h2 : ((n : Int) != (m : Int)) = true := by rw [bne_iff_ne]; omega
    rw [HE.out]
    clear HE ha hb hna hnb hA hB hla hlb
    go_enter Tryz.func156, Tryz.ntmps156
    go_wp2_with fail
    go_ret
    exact ⟨rfl, Drn.refl w⟩
def SumR (w : World) (la lb : List Nat) (o : Value) (c i : Value) (wr : World) : Prop :=
  ∃ (k r : Nat) (l : List Nat), k ≤ max la.length lb.length + 1 ∧ (k = max la.length lb.length + 1 → r = 0) ∧ i = .int .i64 (k : Int) ∧ c = .int .i64 (r : Int) ∧ r ≤ 1 ∧ Own wr w.heap.size o l ∧ Dl l ∧ l.length = k ∧
    val l + Bs ^ k * r = val (la.take k) + val (lb.take k) ∧ Below w.heap.size w wr
theorem sum_step {la lb l : List Nat} {k r : Nat} (ha : Dl la) (hb : Dl lb) (hr : r ≤ 1) (hl : l.length = k) (hv : val l + Bs ^ k * r = val (la.take k) + val (lb.take k)) :
    (r + la.getD k 0 + lb.getD k 0) / Bs ≤ 1 ∧ (r + la.getD k 0 + lb.getD k 0) % Bs < Bs ∧ val (l ++ [(r + la.getD k 0 + lb.getD k 0) % Bs]) + Bs ^ (k + 1) * ((r + la.getD k 0 + lb.getD k 0) / Bs) = val (la.take (k + 1)) + val (lb.take (k + 1)) := by
  have h1 := ha.getD k
  have h2 := hb.getD k
  rw [val_snoc, hl, val_take_succ, val_take_succ]
  generalize la.getD k 0 = x at h1
  generalize lb.getD k 0 = y at h2
  have h3 := Nat.div_add_mod (r + x + y) Bs
  refine ⟨?_, Nat.mod_lt _ Bs_pos, ?_⟩
  · rw [Bs_eq] at *; omega
  · rw [Nat.pow_succ, Nat.mul_assoc, Nat.add_assoc, ← Nat.mul_add, Nat.add_comm (_ % _), h3, Nat.mul_add, Nat.mul_add]
    omega
theorem SumR.start (w : World) (la lb : List Nat) : SumR w la lb (.slice none 0 0) (.int .i64 0) (.int .i64 0) w :=
  ⟨0, 0, [], Nat.zero_le _, fun _ => rfl, rfl, rfl, by omega, Own.nil w _, Dl.nil, rfl, by simp [val], Below.refl _ _⟩
theorem SumR.next {w w' : World} {la lb l : List Nat} {k r : Nat} {o c i : Value} {C I : Int} (ha : Dl la) (hb : Dl lb) (hr : r ≤ 1) (hl : l.length = k) (hd : Dl l) (hv : val l + Bs ^ k * r = val (la.take k) + val (lb.take k)) (hbel : Below w.heap.size w w')
    (hk : k < max la.length lb.length + 1) (hex : k < la.length ∨ k < lb.length ∨ 0 < r)
    (hown : Own w' w.heap.size o (l ++ [(r + la.getD k 0 + lb.getD k 0) % Bs])) (hc : c = .int .i64 C) (hC : C = (((r + la.getD k 0 + lb.getD k 0) / Bs : Nat) : Int)) (hi : i = .int .i64 I) (hI : I = ((k + 1 : Nat) : Int)) : SumR w la lb o c i w' := by
  subst hc hC hi hI
  obtain ⟨h1, h2, h3⟩ := sum_step ha hb hr hl hv
  refine ⟨k + 1, _, _, by omega, fun e => ?_, rfl, rfl, h1, hown, hd.snoc h2, by simp [hl], h3, hbel⟩
  have e1 : la.length ≤ k := by omega
  have e2 : lb.length ≤ k := by omega
  rw [getD_out e1, getD_out e2, Bs_eq]
  omega
theorem sum_any (A B : Option Addr) (n m ca cb : Nat) (la lb : List Nat) (w : World) (hn : n ≤ 300000) (hm : m ≤ 300000) (hla : la.length = n) (hlb : lb.length = m) (hA : Lc w A la) (hB : Lc w B lb) (ha : Dl la) (hb : Dl lb) :
    Calls Tryz.prog 155 #[.slice A n ca, .slice B m cb] w (RetL (fun l => val l = val la + val lb) w) := by
  have HLA := Lib.hid hla
  have HLB := Lib.hid hlb
  have HDA := Lib.hid ha
  have HDB := Lib.hid hb
  clear hla hlb ha hb
  go_enter Tryz.func155, Tryz.ntmps155
  go_wp2_with fail
  go_loopw [5, 6, 7] (fun o c i wr => SumR w la lb o c i wr) (fun _ _ i _ => n + m + 2 - (intOf i).toNat)
  case atStart => exact SumR.start w la lb
  case round =>
    obtain ⟨k, r, l, hk, hk0, rfl, rfl, hr, hown, hd, hl, hv, hbel⟩ := hrel
    have hkm : k ≤ n + m + 1 := by rw [HLA.out, HLB.out] at hk; omega
    have hmk : Hid (k < n ∨ k < m ∨ 0 < r → k < max la.length lb.length + 1) := fun h => by
      have h1 := HLA.out
      have h2 := HLB.out
      rcases Nat.lt_or_ge k (max la.length lb.length + 1) with h' | h'
      · exact h'
      · have := hk0 (by omega)
        omega
    have hll : l.length ≤ 1000000 := by omega
    have hsz := hbel.size
    have HBL := Lib.hid hbel
    have HV := Lib.hid hv
    have HD := Lib.hid hd
    have HL := Lib.hid hl
    have HK := Lib.hid hk
    clear hk hk0 hbel hv hd hl
    obtain ⟨x, hx⟩ : ∃ x, la.getD k 0 = x := ⟨_, rfl⟩
    obtain ⟨y, hy⟩ : ∃ y, lb.getD k 0 = y := ⟨_, rfl⟩
    have hx1 : x < 1073741824 := by have := HDA.out.getD k; rw [Bs_eq] at this; omega
    have hy1 : y < 1073741824 := by have := HDB.out.getD k; rw [Bs_eq] at this; omega
    have HX := Lib.hid hx
    have HY := Lib.hid hy
    clear hx hy
    by_cases h1 : k < n
    · by_cases h2 : k < m
      · obtain ⟨b, off, rfl, -, hcells⟩ := hA.keep HBL.out (by rw [HLA.out]; omega)
        have c1 := hcells k (by rw [HLA.out]; exact h1)
        clear hcells
        rw [HX.out] at c1
        obtain ⟨b', off', rfl, -, hcells⟩ := hB.keep HBL.out (by rw [HLB.out]; omega)
        have c2 := hcells k (by rw [HLB.out]; exact h2)
        clear hcells
        rw [HY.out] at c2
        go_wp2_with (at_builtin; refine wpList_push rfl _ _ rfl w.heap.size _ l rfl (hown.alloc _) wr.heap.size rfl _ (cell_new _ _ _) ((r + x + y) % Bs) (by rw [Bs_eq]; omega) hll (by simp; omega) (fun v' w' hown' hkeep => ?_))
        have HO := Lib.hid hown'
        have HKp := Lib.hid (hkeep w (HBL.out.alloc hsz _))
        clear hown' hkeep
        go_wp2_with fail
        go_roundw
        case rel => exact SumR.next HDA.out HDB.out hr HL.out HD.out HV.out HKp.out (hmk.out (by omega)) (by rw [HLA.out, HLB.out]; omega) (by rw [HX.out, HY.out]; exact HO.out) rfl (by rw [HX.out, HY.out, Bs_eq]; omega) rfl (by omega)
        case measure => simp [intOf]; omega
      · obtain ⟨b, off, rfl, -, hcells⟩ := hA.keep HBL.out (by rw [HLA.out]; omega)
        have c1 := hcells k (by rw [HLA.out]; exact h1)
        clear hcells
        rw [HX.out] at c1
        obtain rfl : y = 0 := by rw [← HY.out]; exact getD_out (by rw [HLB.out]; omega)
        go_wp2_with (at_builtin; refine wpList_push rfl _ _ rfl w.heap.size _ l rfl (hown.alloc _) wr.heap.size rfl _ (cell_new _ _ _) ((r + x + 0) % Bs) (by rw [Bs_eq]; omega) hll (by simp; omega) (fun v' w' hown' hkeep => ?_))
        have HO := Lib.hid hown'
        have HKp := Lib.hid (hkeep w (HBL.out.alloc hsz _))
        clear hown' hkeep
        go_wp2_with fail
        go_roundw
        case rel => exact SumR.next HDA.out HDB.out hr HL.out HD.out HV.out HKp.out (hmk.out (by omega)) (by rw [HLA.out, HLB.out]; omega) (by rw [HX.out, HY.out]; exact HO.out) rfl (by rw [HX.out, HY.out, Bs_eq]; omega) rfl (by omega)
        case measure => simp [intOf]; omega
    · by_cases h2 : k < m
      · obtain rfl : x = 0 := by rw [← HX.out]; exact getD_out (by rw [HLA.out]; omega)
        obtain ⟨b', off', rfl, -, hcells⟩ := hB.keep HBL.out (by rw [HLB.out]; omega)
        have c2 := hcells k (by rw [HLB.out]; exact h2)
        clear hcells
        rw [HY.out] at c2
        go_wp2_with (at_builtin; refine wpList_push rfl _ _ rfl w.heap.size _ l rfl (hown.alloc _) wr.heap.size rfl _ (cell_new _ _ _) ((r + 0 + y) % Bs) (by rw [Bs_eq]; omega) hll (by simp; omega) (fun v' w' hown' hkeep => ?_))
        have HO := Lib.hid hown'
        have HKp := Lib.hid (hkeep w (HBL.out.alloc hsz _))
        clear hown' hkeep
        go_wp2_with fail
        go_roundw
        case rel => exact SumR.next HDA.out HDB.out hr HL.out HD.out HV.out HKp.out (hmk.out (by omega)) (by rw [HLA.out, HLB.out]; omega) (by rw [HX.out, HY.out]; exact HO.out) rfl (by rw [HX.out, HY.out, Bs_eq]; omega) rfl (by omega)
        case measure => simp [intOf]; omega
      · obtain rfl : x = 0 := by rw [← HX.out]; exact getD_out (by rw [HLA.out]; omega)
        obtain rfl : y = 0 := by rw [← HY.out]; exact getD_out (by rw [HLB.out]; omega)
        by_cases h3 : r = 0
        · subst h3
          go_wp2_with fail
          go_ret
          refine ⟨_, l, rfl, hown.ls HD.out, ?_, HBL.out⟩
          have h4 := HV.out
          rw [Nat.mul_zero, Nat.add_zero, val_take_all (by rw [HLA.out]; omega), val_take_all (by rw [HLB.out]; omega)] at h4
          exact h4
        · obtain rfl : r = 1 := by omega
          go_wp2_with (at_builtin; refine wpList_push rfl _ _ rfl w.heap.size _ l rfl (hown.alloc _) wr.heap.size rfl _ (cell_new _ _ _) ((1 + 0 + 0) % Bs) (by rw [Bs_eq]; omega) hll (by simp; omega) (fun v' w' hown' hkeep => ?_))
          have HO := Lib.hid hown'
          have HKp := Lib.hid (hkeep w (HBL.out.alloc hsz _))
          clear hown' hkeep
          go_wp2_with fail
          go_roundw
          case rel => exact SumR.next HDA.out HDB.out hr HL.out HD.out HV.out HKp.out (hmk.out (by omega)) (by rw [HLA.out, HLB.out]; omega) (by rw [HX.out, HY.out]; exact HO.out) rfl (by rw [HX.out, HY.out, Bs_eq]; omega) rfl (by omega)
          case measure => simp [intOf]; omega
end Go.Proofs.YtmfnpipmbpnfbaaGreatDoor
