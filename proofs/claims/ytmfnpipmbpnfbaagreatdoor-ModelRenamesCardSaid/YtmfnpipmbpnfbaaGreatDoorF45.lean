/- Whether a list is an order of the states, by the reference. -/
import Derived.Test.YtmfnpipmbpnfbaaGreatDoorF42
import Derived.Test.YtmfnpipmbpnfbaaGreatDoorF43
import Derived.Test.YtmfnpipmbpnfbaaGreatDoorF39

set_option maxRecDepth 100000
set_option maxHeartbeats 40000000
namespace Go.Proofs.YtmfnpipmbpnfbaaGreatDoor
open Go.RowKit
theorem infoBool : (Tryz.prog.info? 4).map (fun i => (i.zero, i.size, i.bytes)) = some (some (.bool false), 1, 1) := by kernel_rfl
theorem make_bools (n : Nat) (h : n ≤ 4000000) (w : World) :
    (Instr.makeSlice 140 (.int .i64 (n : Int)) (.int .i64 (n : Int))).run Tryz.prog w = .ok (.slice (some ⟨w.heap.size, 0, none⟩) n n) (w.alloc (.cells (madeCells #[.bool false] n) 4)) :=
  run_make_row' (P := Tryz.prog) 140 4 (.bool false) 1 Tryz.underlying140 infoBool rfl .i64 .i64 n (by omega) (by omega) w
def RowT (w : World) (g n : Nat) (f : Nat → Bool) : Prop := w.rowIs g 4 n (fun j => .bool (f j))
theorem rorder_any (A B : Option Addr) (n c m d : Nat) (f : Nat → Int) (w : World) (hn : n ≤ 1000000) (hm : m ≤ 1000000) (hB : Lin w B m f) :
    Calls Tryz.prog 72 #[.agg #[.slice A n c], .slice B m d] w fun e w' => e = .returned (.bool (ordB n m f)) ∧ Below w.heap.size w w' := by
  have HB := Lib.hid hB
  have HN := Lib.hid hn
  clear hB
  have hmk := make_bools n (by omega)
  go_enter Tryz.func72, Tryz.ntmps72
  go_upto_region 1 with fail
  generalize hX : w.alloc _ = X
  have HX : Hid (Below w.heap.size w X) := by rw [← hX]; exact below_alloc _ _
  have MX : Hid (MBx X w.heap.size A n c) := by rw [← hX]; exact MBx.new _ _ _ _ _
  clear hX
  obtain ⟨x0, -⟩ := MX.out
  go_wp2_with fail
  clear x0 hmk
  generalize hY : X.alloc _ = Y
  have HR : Hid (RowT Y X.heap.size n (fun x => decide (0 ≤ nmF f 0 x))) := by rw [← hY]; exact Lib.hid (World.rowIs_made X _ n _)
  have HW : Hid (Below w.heap.size w Y) := by rw [← hY]; exact Lib.hid (HX.out.trans ((below_alloc X _).mono HX.out.size))
  have HG : Hid (w.heap.size ≤ X.heap.size) := Lib.hid HX.out.size
  clear hY HX MX
  generalize X.heap.size = g at *
  go_loopw [14] (fun i wr => ∃ k : Nat, Hid (k ≤ m) ∧ i = .int .i64 (k : Int) ∧ Hid (∀ j, j < k → perB f n j = true) ∧ Hid (RowT wr g n (fun x => decide (0 ≤ nmF f k x))) ∧ Hid (Below w.heap.size w wr)) (fun i _ => m - (intOf i).toNat)
  case atStart => exact ⟨0, Nat.zero_le _, rfl, Lib.hid (fun i hi => absurd hi (by omega)), HR, HW⟩
  case round =>
    clear HR HW
    obtain ⟨k, hk, rfl, hv, hR, hB⟩ := hrel
    by_cases hlt : k < m
    · have hlt' : (k : Int) < (m : Int) := by omega
      obtain ⟨b, off, rfl, hbl, hc⟩ := HB.out.keep hB.out (by omega)
      have a0 := hc k hlt
      have HPB : Hid (perB f n k = (!(decide (f k < 0)) && !(decide ((n : Int) ≤ f k)) && allB (fun j => !(decide (f j = f k))) k)) := Lib.hid rfl
      have HSEEN : Hid (0 ≤ f k → decide (0 ≤ nmF f k (f k).toNat) = !(allB (fun j => !(decide (f j = f k))) k)) := Lib.hid (nmF_seen hv.out)
      have HSTEP : Hid (∀ x, nmF f (k + 1) x = if x = (f k).toNat then (k : Int) else nmF f k x) := Lib.hid fun x => rfl
      have HOF : Hid (∀ b, allB (fun j => !(decide (f j = f k))) k = b → perB f n k = (!(decide (f k < 0)) && !(decide ((n : Int) ≤ f k)) && b)) := Lib.hid fun b hb => by rw [HPB.out, hb]
      have HBAD : Hid (perB f n k = false → ordB n m f = false) := Lib.hid fun h => by unfold ordB; rw [allB_false hlt h]; simp
      clear hc
      generalize f k = fk at a0 HPB HSEEN HSTEP HOF
      by_cases g1 : fk < 0
      · have HE := Lib.hid (HBAD.out (by rw [HPB.out, decide_eq_true g1]; rfl))
        go_wp2_with fail
        go_ret
        exact ⟨by rw [HE.out]; rfl, hB.out⟩
      · by_cases g2 : (n : Int) ≤ fk
        · have HE := Lib.hid (HBAD.out (by rw [HPB.out, decide_eq_true g2]; simp))
          go_wp2_with fail
          go_ret
          exact ⟨by rw [HE.out]; rfl, hB.out⟩
        · obtain ⟨x, rfl⟩ := Int.eq_ofNat_of_zero_le (show 0 ≤ fk by omega)
          have hx : x < n := by omega
          have hse := HSEEN.out (by omega)
          rw [Int.toNat_natCast] at hse
          have r0 := World.rowIs.cell hR.out hx
          have f0 := World.rowIs.frozen hR.out x
          have g2' : (x : Int) < (n : Int) := by omega
          dsimp only at r0
          rw [hse] at r0
          cases hs : allB (fun j => !(decide (f j = (x : Int)))) k with
          | false =>
            rw [hs] at r0
            have HE := Lib.hid (HBAD.out (by rw [HOF.out _ hs]; simp))
            clear hse hs
            go_wp2_with fail
            go_ret
            exact ⟨by rw [HE.out]; rfl, hB.out⟩
          | true =>
            rw [hs] at r0
            have HV : Hid (∀ j, j < k + 1 → perB f n j = true) := Lib.hid fun j hj => by
              by_cases e : j = k
              · rw [e, HOF.out _ hs, decide_eq_false g1, decide_eq_false g2]; rfl
              · exact hv.out j (by omega)
            have HRR : Hid (RowT (wr.setCell ⟨g, x, none⟩ (.bool true)) g n (fun y => decide (0 ≤ nmF f (k + 1) y))) := Lib.hid (World.rowIs.congr (World.rowIs.set hR.out x (.bool true)) fun j _ => by
              show (if j = x then Value.bool true else Value.bool (decide (0 ≤ nmF f k j))) = Value.bool (decide (0 ≤ nmF f (k + 1) j))
              rw [HSTEP.out j, Int.toNat_natCast]
              by_cases e : j = x
              · rw [if_pos e, if_pos e, decide_eq_true (by omega)]
              · rw [if_neg e, if_neg e])
            have HB2 := Lib.hid (hB.out.setCell (p := ⟨g, x, none⟩) HG.out (.bool true))
            clear hse hs hv hR
            go_wp2_with fail
            exact ⟨⟨k + 1, Lib.hid (by omega), by rw [show ((k + 1 : Nat) : Int) = (k : Int) + 1 from by omega], HV, HRR, HB2⟩, by simp [intOf]; omega⟩
    · have hke : k = m := by have := hk.out; omega
      have hlt' : ¬ (k : Int) < (m : Int) := by omega
      subst hke
      have HE : Hid (ordB n k f = ((k : Int) == (n : Int))) := by
        unfold ordB
        rw [allB_true hv.out, Bool.and_true]
        exact Lib.hid rfl
      go_wp2_with fail
      go_ret
      exact ⟨by rw [HE.out]; rfl, hB.out⟩
def BkB (w : World) (g : Nat) (h : ChV) : Prop := g < w.heap.size ∧ ∀ j, j < h.n → (w.cell? ⟨g, j * 3, none⟩ = some (.int .i64 (h.tw j)) ∧ w.cell? ⟨g, j * 3 + 1, none⟩ = some (.int .i64 (h.ct j)) ∧ w.cell? ⟨g, j * 3 + 2, none⟩ = some (.int .i64 (h.cl j))) ∧ w.frozen? ⟨g, j * 3, none⟩ = false ∧ w.frozen? ⟨g, j * 3 + 1, none⟩ = false ∧ w.frozen? ⟨g, j * 3 + 2, none⟩ = false
theorem BkB.lt {w : World} {g : Nat} {h : ChV} (H : BkB w g h) : g < w.heap.size := H.1
theorem BkB.block {w w' : World} {g : Nat} {h : ChV} (H : BkB w g h) (hs : w.heap.size ≤ w'.heap.size) (e : w'.heap[g]? = w.heap[g]?) : BkB w' g h :=
  ⟨Nat.lt_of_lt_of_le H.1 hs, fun j hj => by
    obtain ⟨⟨c0, c1, c2⟩, f0, f1, f2⟩ := H.2 j hj
    exact ⟨⟨(World.cell?_of_block (w := w) (a := ⟨g, j * 3, none⟩) e).trans c0, (World.cell?_of_block (w := w) (a := ⟨g, j * 3 + 1, none⟩) e).trans c1, (World.cell?_of_block (w := w) (a := ⟨g, j * 3 + 2, none⟩) e).trans c2⟩, (World.frozen?_of_block (w := w) (a := ⟨g, j * 3, none⟩) e).trans f0, (World.frozen?_of_block (w := w) (a := ⟨g, j * 3 + 1, none⟩) e).trans f1, (World.frozen?_of_block (w := w) (a := ⟨g, j * 3 + 2, none⟩) e).trans f2⟩⟩
theorem BkB.keep {w w' : World} {g : Nat} {h : ChV} (H : BkB w g h) (hb : Below w.heap.size w w') : BkB w' g h := H.block hb.size (hb.block g H.lt)
theorem BkB.br {w : World} {g : Nat} {h : ChV} {P : Nat → Prop} (H : BkB w g h) (hA : h.A = some ⟨g, 0, none⟩) (hP : P g) : BrP P w h := fun _ =>
  ⟨g, 0, hA, H.lt, hP, fun i hi => by rw [Nat.zero_add]; exact (H.2 i hi).1⟩
theorem BkB.put {w : World} {g : Nat} {h : ChV} (H : BkB w g h) {i : Nat} (hi : i < h.n) (x : Int) : BkB (w.setCell ⟨g, i * 3, none⟩ (.int .i64 x)) g ⟨h.t, h.l, h.A, h.n, h.c, fun j => if j = i then x else h.tw j, h.ct, h.cl⟩ := by
  refine ⟨by simpa using H.1, fun j hj => ?_⟩
  obtain ⟨⟨c0, c1, c2⟩, f0, f1, f2⟩ := H.2 j hj
  refine ⟨⟨?_, ?_, ?_⟩, ?_, ?_, ?_⟩
  · show _ = some (Value.int .i64 (if j = i then x else h.tw j))
    by_cases e : j = i
    · subst e
      rw [if_pos rfl]
      exact World.cell?_setCell_same _ _ _ c0
    · rw [if_neg e, World.cell?_setCell_other _ _ _ _ (by intro q; injection q with q1 q2 q3; omega)]
      exact c0
  · rw [World.cell?_setCell_other _ _ _ _ (by intro q; injection q with q1 q2 q3; omega)]
    exact c1
  · rw [World.cell?_setCell_other _ _ _ _ (by intro q; injection q with q1 q2 q3; omega)]
    exact c2
  · rw [World.frozen?_setCell]; exact f0
  · rw [World.frozen?_setCell]; exact f1
  · rw [World.frozen?_setCell]; exact f2
theorem BkB.like {w : World} {g : Nat} {h h' : ChV} (H : BkB w g h) (hn : h'.n = h.n) (hv : ∀ j, j < h.n → h'.tw j = h.tw j ∧ h'.ct j = h.ct j ∧ h'.cl j = h.cl j) : BkB w g h' :=
  ⟨H.1, fun j hj => by
    rw [hn] at hj
    obtain ⟨e0, e1, e2⟩ := hv j hj
    rw [e0, e1, e2]
    exact H.2 j hj⟩
theorem own_bk {w : World} {base : Nat} {h : ChV} {g c : Nat} (ho : w.ownsRow base 74 3 (.slice (some ⟨g, 0, none⟩) h.n c) h.n (cells3 h.n (fun i => .int .i64 (h.tw i)) (fun i => .int .i64 (h.ct i)) (fun i => .int .i64 (h.cl i)))) : BkB w g h := by
  rcases ho.2 with ⟨e, -⟩ | ⟨g2, cap, cur, e, -, hb, -, -, -, ht⟩
  · cases e
  · injection e with e1 e2 e3
    injection e1 with e1
    injection e1 with e1
    subst e1
    have key : ∀ j u, (cells3 h.n (fun i => .int .i64 (h.tw i)) (fun i => .int .i64 (h.ct i)) (fun i => .int .i64 (h.cl i)))[j]? = some u → cur[j]? = some u := fun j u hu => by
      rw [← ht, List.getElem?_take] at hu
      split at hu
      · simpa using hu
      · cases hu
    refine ⟨lt_of_heap hb, fun j hj => ?_⟩
    have c0 := key _ _ (cells3_at0 _ _ _ hj)
    have c1 := key _ _ (cells3_at1 _ _ _ hj)
    have c2 := key _ _ (cells3_at2 _ _ _ hj)
    refine ⟨⟨?_, ?_, ?_⟩, ?_, ?_, ?_⟩
    · simp [World.cell?, hb, c0]
    · simp [World.cell?, hb, c1]
    · simp [World.cell?, hb, c2]
    · simp [World.frozen?, hb]
    · simp [World.frozen?, hb]
    · simp [World.frozen?, hb]
def BrK (lo : Nat) (w : World) (h : ChV) : Prop := ∃ g, h.A = some ⟨g, 0, none⟩ ∧ lo ≤ g ∧ BkB w g h
theorem BrK.keep {lo : Nat} {w w' : World} {h : ChV} (H : BrK lo w h) (hb : Below w.heap.size w w') : BrK lo w' h := by
  obtain ⟨g, e, hg, hB⟩ := H
  exact ⟨g, e, hg, hB.keep hb⟩
theorem BrK.mono {lo lo' : Nat} {w : World} {h : ChV} (H : BrK lo w h) (hl : lo' ≤ lo) : BrK lo' w h := by
  obtain ⟨g, e, hg, hB⟩ := H
  exact ⟨g, e, Nat.le_trans hl hg, hB⟩
theorem run_copyK (w : World) (ty g : Nat) (h : ChV) (ca : Nat) (hA : Lbr w h.A h.n h.tw h.ct h.cl) (h0 : 0 < h.n) (hn : h.n ≤ 1000) :
    ∃ A' c' w', (Builtin.append_ #[63, 63] ty #[.slice (some ⟨g, 0, none⟩) 0 0, .slice h.A h.n ca]).run Tryz.prog w = .ok (.slice A' h.n c') w' ∧ BrK w.heap.size w' ⟨h.t, h.l, A', h.n, c', h.tw, h.ct, h.cl⟩ ∧ Below w.heap.size w w' := by
  obtain ⟨i, hi, hz, hs, hb⟩ := info_open infoBr
  obtain ⟨b, off, hA1, hbl, hc⟩ := hA h0
  have hnews : ∀ j u, (cells3 h.n (fun i => .int .i64 (h.tw i)) (fun i => .int .i64 (h.ct i)) (fun i => .int .i64 (h.cl i)))[j]? = some u → w.cell? ((⟨b, off, none⟩ : Addr).add j) = some u := fun j u hu => by
    obtain ⟨hj, e⟩ := cells3_get hu
    have hadd : (⟨b, off, none⟩ : Addr).add j = ⟨b, off + j, none⟩ := by unfold Addr.add; split <;> simp_all
    rw [hadd, e]
    have hh := hc (j / 3) (by omega)
    rcases (by omega : j % 3 = 0 ∨ j % 3 = 1 ∨ j % 3 = 2) with p | p | p
    · rw [if_pos p, show off + j = off + j / 3 * 3 from by omega]
      exact hh.1
    · rw [if_neg (by omega), if_pos p, show off + j = off + j / 3 * 3 + 1 from by omega]
      exact hh.2.1
    · rw [if_neg (by omega), if_neg (by omega), show off + j = off + j / 3 * 3 + 2 from by omega]
      exact hh.2.2
  have hlen := cells3_len h.n (fun i => Value.int .i64 (h.tw i)) (fun i => Value.int .i64 (h.ct i)) (fun i => Value.int .i64 (h.cl i))
  have hr := run_append_grow (P := Tryz.prog) w 63 ty 74 i _ Tryz.underlying63 hi hz ⟨g, 0, none⟩ 0 0 [] (by simp) (fun j v h => by simp at h) ⟨b, off, none⟩ h.n ca _ (by rw [hs]; exact hlen) hnews (by omega) (by omega) (growslice_fits (by omega) (by rw [hb]; omega))
  have hge := grownCap_ge w (0 + h.n) 0 74
  have hcm : grownCap w (0 + h.n) 0 74 ≤ maxLen := grownCap_le_maxLen w (0 + h.n) 0 74 (by unfold maxLen; omega)
  have hzs : (Value.agg #[.int .i64 0, .int .i64 0, .int .i64 0]).cells.size = 3 := rfl
  have ho : (w.drew.alloc (.cells ([].toArray ++ (cells3 h.n (fun i => .int .i64 (h.tw i)) (fun i => .int .i64 (h.ct i)) (fun i => .int .i64 (h.cl i))).toArray ++ Builtin.zeroCells (Value.agg #[.int .i64 0, .int .i64 0, .int .i64 0]).cells (grownCap w (0 + h.n) 0 74 - (0 + h.n))) 74)).ownsRow w.heap.size 74 3
      (.slice (some ⟨w.heap.size, 0, none⟩) h.n (grownCap w (0 + h.n) 0 74)) h.n (cells3 h.n (fun i => .int .i64 (h.tw i)) (fun i => .int .i64 (h.ct i)) (fun i => .int .i64 (h.cl i))) := by
    refine ⟨hlen, .inr ⟨w.heap.size, _, _, rfl, Nat.le_refl _, heap_alloc_new w.drew _, by omega, hcm, ?_, ?_⟩⟩
    · simp only [Array.size_append, List.size_toArray, size_zeroCells, hzs, hlen, List.length_nil]
      omega
    · simp only [Array.toList_append, List.append_assoc]
      rw [← hlen]
      exact List.take_left
  rw [Nat.zero_add] at hr ho
  rw [hA1]
  exact ⟨_, _, _, hr, ⟨w.heap.size, rfl, Nat.le_refl _, own_bk (h := ⟨h.t, h.l, some ⟨w.heap.size, 0, none⟩, h.n, grownCap w h.n 0 74, h.tw, h.ct, h.cl⟩) ho⟩, (Below.refl _ _).drew.alloc (Nat.le_refl _) _⟩
theorem wpList_copyK {ops : Array Oper} {rest : List Oper} {o : Oper} {a : Act} {Q : Exit → Act → World → Prop} {W : World} (hgd : o.guard = none) (s x : Operand)
    (ho : o.op = .call { callee := .builtin .append, args := #[s, x], argTypes := #[63, 63] })
    (g : Nat) (h : ChV) (ca : Nat) (hs : a.eval s = .slice (some ⟨g, 0, none⟩) 0 0) (hx : a.eval x = .slice h.A h.n ca)
    (hA : Lbr W h.A h.n h.tw h.ct h.cl) (h0 : 0 < h.n) (hn : h.n ≤ 1000)
    (H : ∀ A' c' W', BrK W.heap.size W' ⟨h.t, h.l, A', h.n, c', h.tw, h.ct, h.cl⟩ → Below W.heap.size W W' → wpList Tryz.prog ops Q rest (a.put o.dst (.slice A' h.n c')) W') : wpList Tryz.prog ops Q (o :: rest) a W :=
  wpList_plain hgd fun K hK => by
    obtain ⟨A', c', W', hr, hb, hg⟩ := run_copyK W o.type g h ca hA h0 hn
    unfold Oper.wp execOp
    simp only [ho, resolve, invoke, builtin, Sem.run_bind, Sem.run_pure, Result.andThen_ok, List.map_toArray, List.map_cons, List.map_nil, hs, hx, hr]
    exact hK _ _ (H A' c' W' hb hg)
def BVK (lo : Nat) (w : World) (u : Value) (h : ChV) : Prop := ∃ A' c', u = .slice A' h.n c' ∧ BrK lo w ⟨h.t, h.l, A', h.n, c', h.tw, h.ct, h.cl⟩
def RetBk (h : ChV) (w : World) (e : Ending) (w' : World) : Prop := ∃ u, e = .returned u ∧ BVK w.heap.size w' u h ∧ Below w.heap.size w w'
theorem clone_own (h : ChV) (w : World) (hA : Lbr w h.A h.n h.tw h.ct h.cl) (h0 : 0 < h.n) (hn : h.n ≤ 1000) :
    Calls Tryz.prog 103 #[.slice h.A h.n h.c] w (RetBk h w) := by
  have q : ∀ (w : World) (a : Option Addr) (n c n' c' : Nat), (binOp .eql 63 (.slice a n c) (.slice none n' c')).run Tryz.prog w = .ok (.bool a.isNone) w := fun w a n c n' c' => Lib.run_eql_slice_nil w _ _ a n c n' c' Tryz.underlying63
  have HA := Lib.hid hA
  have HN := Lib.hid hn
  have HP := Lib.hid h0
  clear hA hn h0
  obtain ⟨t, l, A, n, c, tw, ct, cl⟩ := h
  cases A with
  | none =>
    obtain ⟨b, off, e, -⟩ := HA.out HP.out
    cases e
  | some a =>
    go_enter Tryz.func103, Tryz.ntmps103
    go_wp2_with (at_builtin; refine wpList_copyK rfl _ _ rfl _ ⟨t, l, some a, n, c, tw, ct, cl⟩ _ rfl rfl ?q2 ?q3 ?q4 ?_)
    case q2 => exact HA.out.keep (below_alloc _ _)
    case q3 => exact HP.out
    case q4 => exact HN.out
    intro A' c' w1 hb hg
    have HB : Hid (BrK w.heap.size w1 ⟨t, l, A', n, c', tw, ct, cl⟩) := Lib.hid (hb.mono (by simp))
    have HG : Hid (Below w.heap.size w w1) := Lib.hid ((below_alloc w _).trans (hg.mono (by omega)))
    clear hb hg
    go_wp2_with fail
    go_ret
    exact ⟨_, rfl, ⟨A', c', rfl, HB.out⟩, HG.out⟩
def NewS (w : World) (C : Nat) (s : StV) (g : Nat → Nat) : Prop :=
  RowC w C s.n s.ch ∧ (∀ j, j < s.n → (s.ch j).A = some ⟨g j, 0, none⟩ ∧ C < g j ∧ BkB w (g j) (s.ch j)) ∧ ∀ i j, i < j → j < s.n → g i < g j
theorem NewS.stay {w w' : World} {C : Nat} {s : StV} {g : Nat → Nat} (h : NewS w C s g) (hs : w.heap.size ≤ w'.heap.size) (hb : ∀ b, b < w.heap.size → C ≤ b → w'.heap[b]? = w.heap[b]?) : NewS w' C s g :=
  ⟨R3.block h.1 (hb C (R3.lt h.1) (Nat.le_refl _)), fun j hj => by
    obtain ⟨e, hl, hB⟩ := h.2.1 j hj
    exact ⟨e, hl, hB.block hs (hb _ hB.lt (Nat.le_of_lt hl))⟩, h.2.2⟩
theorem NewS.keep {w w' : World} {C : Nat} {s : StV} {g : Nat → Nat} (h : NewS w C s g) (hb : Below w.heap.size w w') : NewS w' C s g := h.stay hb.size fun b hlt _ => hb.block b hlt
theorem NewS.stP {P : Nat → Prop} {w : World} {C : Nat} {s : StV} {g : Nat → Nat} (h : NewS w C s g) (hA : s.A = some ⟨C, 0, none⟩) (hP : ∀ b, C ≤ b → P b) : StP P w s :=
  ⟨hA ▸ R3.rows h.1 (hP C (Nat.le_refl _)), fun j hj => (h.2.1 j hj).2.2.br (h.2.1 j hj).1 (hP _ (Nat.le_of_lt (h.2.1 j hj).2.1))⟩
def NwI (w : World) (C n k : Nat) (src : Nat → ChV) : Prop :=
  ∃ (ch : Nat → ChV) (g : Nat → Nat), RowC w C n ch ∧ (∀ j, j < k → ChLk (ch j) (src j) ∧ (ch j).A = some ⟨g j, 0, none⟩ ∧ C < g j ∧ BkB w (g j) (ch j)) ∧ ∀ i j, i < j → j < k → g i < g j
theorem NwI.lt {w : World} {C n k : Nat} {src : Nat → ChV} (h : NwI w C n k src) : C < w.heap.size := by obtain ⟨ch, g, hr, -⟩ := h; exact R3.lt hr
theorem NwI.keep {w w' : World} {C n k : Nat} {src : Nat → ChV} (h : NwI w C n k src) (hb : Below w.heap.size w w') : NwI w' C n k src := by
  obtain ⟨ch, g, hr, hc, ho⟩ := h
  exact ⟨ch, g, R3.keep hr hb, fun j hj => ⟨(hc j hj).1, (hc j hj).2.1, (hc j hj).2.2.1, (hc j hj).2.2.2.keep hb⟩, ho⟩
theorem NwI.new (w : World) (n : Nat) (src : Nat → ChV) : NwI (w.alloc (.cells (madeCells #[.int .i64 0, .int .i64 0, .slice none 0 0] (n * 3)) 65)) w.heap.size n 0 src := ⟨_, fun _ => 0, RowC.new w n, fun j hj => absurd hj (by omega), fun _ j _ hj => absurd hj (by omega)⟩
theorem NwI.step {w0 w : World} {C n k : Nat} {src : Nat → ChV} (h : NwI w0 C n k src) (hw : Below w0.heap.size w0 w) (v : ChV) (hv : ChLk v (src k)) (hb : BrK w0.heap.size w v) :
    NwI (((w.setCell ⟨C, k * 3, none⟩ (.int .i64 v.t)).setCell ⟨C, k * 3 + 1, none⟩ (.int .i64 v.l)).setCell ⟨C, k * 3 + 2, none⟩ (.slice v.A v.n v.c)) C n (k + 1) src := by
  have hlt := h.lt
  obtain ⟨ch, g, hr, hc, ho⟩ := h
  obtain ⟨gk, eA, hge, hB⟩ := hb
  have far : ∀ b (u : ChV), C < b → BkB w b u → BkB (((w.setCell ⟨C, k * 3, none⟩ (.int .i64 v.t)).setCell ⟨C, k * 3 + 1, none⟩ (.int .i64 v.l)).setCell ⟨C, k * 3 + 2, none⟩ (.slice v.A v.n v.c)) b u := fun b u hb hB =>
    hB.block (Nat.le_of_eq size_cells.symm) (far_cells (Nat.ne_of_gt hb))
  refine ⟨_, fun j => if j = k then gk else g j, RowC.put (R3.keep hr hw) k v, fun j hj => ?_, fun i j hij hj => ?_⟩
  · by_cases e : j = k
    · simp only [if_pos e]
      rw [e]
      exact ⟨hv, eA, by omega, far _ _ (by omega) hB⟩
    · simp only [if_neg e]
      obtain ⟨c1, c2, c3, c4⟩ := hc j (by omega)
      exact ⟨c1, c2, c3, far _ _ c3 (c4.keep hw)⟩
  · have hik : i ≠ k := by omega
    simp only [if_neg hik]
    by_cases e : j = k
    · simp only [if_pos e]
      have := (hc i (by omega)).2.2.2.lt
      omega
    · simp only [if_neg e]
      exact ho i j hij (by omega)
theorem NwI.slot {w : World} {C n k : Nat} {src : Nat → ChV} (h : NwI w C n k src) {j : Nat} (hj : j < n) : (∃ a b c, w.cell? ⟨C, j * 3, none⟩ = some a ∧ w.cell? ⟨C, j * 3 + 1, none⟩ = some b ∧ w.cell? ⟨C, j * 3 + 2, none⟩ = some c) ∧ ∀ o, w.frozen? ⟨C, o, none⟩ = false := by
  obtain ⟨ch, g, hr, -⟩ := h
  obtain ⟨b, off, e, -, -, hc⟩ := R3.rows (P := fun _ => True) hr trivial (by omega)
  obtain ⟨rfl, rfl⟩ : C = b ∧ 0 = off := by
    have := Option.some.inj e
    injection this with h1 h2 h3
    exact ⟨h1, h2⟩
  have := hc j hj
  rw [Nat.zero_add] at this
  exact ⟨⟨_, _, _, this⟩, R3.frozen hr⟩
theorem NwI.done {w : World} {C n : Nat} {src : Nat → ChV} (h : NwI w C n n src) (ow mrk : Int) : ∃ (s : StV) (g : Nat → Nat), s.ow = ow ∧ s.mrk = mrk ∧ s.A = some ⟨C, 0, none⟩ ∧ s.n = n ∧ s.c = n ∧ NewS w C s g ∧ ∀ j, j < n → ChLk (s.ch j) (src j) := by
  obtain ⟨ch, g, hr, hc, ho⟩ := h
  exact ⟨⟨ow, mrk, some ⟨C, 0, none⟩, n, n, ch⟩, g, rfl, rfl, rfl, rfl, rfl, ⟨hr, fun j hj => (hc j hj).2, ho⟩, fun j hj => (hc j hj).1⟩
def NwO (w : World) (S n k : Nat) (tg : Nat → StV) : Prop :=
  ∃ (st : Nat → StV) (C : Nat → Nat) (g : Nat → Nat → Nat), RowSt w S n st ∧ (∀ i, i < k → StL (st i) (tg i) ∧ (st i).A = some ⟨C i, 0, none⟩ ∧ S < C i ∧ NewS w (C i) (st i) (g i)) ∧
    ∀ i i', i < i' → i' < k → C i < C i' ∧ ∀ j, j < (st i).n → g i j < C i'
theorem NwO.lt {w : World} {S n k : Nat} {tg : Nat → StV} (h : NwO w S n k tg) : S < w.heap.size := by obtain ⟨st, C, g, hr, -⟩ := h; exact R3.lt hr
theorem NwO.stay {w w' : World} {S n k : Nat} {tg : Nat → StV} (h : NwO w S n k tg) (hs : w.heap.size ≤ w'.heap.size) (hb : ∀ b, b < w.heap.size → S ≤ b → w'.heap[b]? = w.heap[b]?) : NwO w' S n k tg := by
  obtain ⟨st, C, g, hr, hc, ho⟩ := h
  exact ⟨st, C, g, R3.block hr (hb S (R3.lt hr) (Nat.le_refl _)), fun i hi => ⟨(hc i hi).1, (hc i hi).2.1, (hc i hi).2.2.1, (hc i hi).2.2.2.stay hs fun b hlt hp => hb b hlt (Nat.le_trans (Nat.le_of_lt (hc i hi).2.2.1) hp)⟩, ho⟩
theorem NwO.keep {w w' : World} {S n k : Nat} {tg : Nat → StV} (h : NwO w S n k tg) (hb : Below w.heap.size w w') : NwO w' S n k tg := h.stay hb.size fun b hlt _ => hb.block b hlt
theorem NwO.new (w : World) (n : Nat) (tg : Nat → StV) : NwO (w.alloc (.cells (madeCells #[.int .i64 0, .int .i64 0, .slice none 0 0] (n * 3)) 53)) w.heap.size n 0 tg := ⟨_, fun _ => 0, fun _ _ => 0, RowSt.new w n, fun j hj => absurd hj (by omega), fun _ j _ hj => absurd hj (by omega)⟩
theorem NwO.slot {w : World} {C n k : Nat} {src : Nat → StV} (h : NwO w C n k src) {j : Nat} (hj : j < n) : (∃ a b c, w.cell? ⟨C, j * 3, none⟩ = some a ∧ w.cell? ⟨C, j * 3 + 1, none⟩ = some b ∧ w.cell? ⟨C, j * 3 + 2, none⟩ = some c) ∧ ∀ o, w.frozen? ⟨C, o, none⟩ = false := by
  obtain ⟨ch, C', g, hr, -⟩ := h
  obtain ⟨b, off, e, -, -, hc⟩ := R3.rows (P := fun _ => True) hr trivial (by omega)
  obtain ⟨rfl, rfl⟩ : C = b ∧ 0 = off := by
    have := Option.some.inj e
    injection this with h1 h2 h3
    exact ⟨h1, h2⟩
  have := hc j hj
  rw [Nat.zero_add] at this
  exact ⟨⟨_, _, _, this⟩, R3.frozen hr⟩
theorem NwO.step {w0 w : World} {S n k : Nat} {tg : Nat → StV} (h : NwO w0 S n k tg) (hw : Below w0.heap.size w0 w) (v : StV) (D : Nat) (gk : Nat → Nat) (hv : StL v (tg k)) (eA : v.A = some ⟨D, 0, none⟩) (hge : w0.heap.size ≤ D) (hN : NewS w D v gk) :
    NwO (((w.setCell ⟨S, k * 3, none⟩ (.int .i64 v.ow)).setCell ⟨S, k * 3 + 1, none⟩ (.int .i64 v.mrk)).setCell ⟨S, k * 3 + 2, none⟩ (.slice v.A v.n v.c)) S n (k + 1) tg := by
  have hlt := h.lt
  obtain ⟨st, C, g, hr, hc, ho⟩ := h
  have far : ∀ b (u : StV) (q : Nat → Nat), S < b → NewS w b u q → NewS (((w.setCell ⟨S, k * 3, none⟩ (.int .i64 v.ow)).setCell ⟨S, k * 3 + 1, none⟩ (.int .i64 v.mrk)).setCell ⟨S, k * 3 + 2, none⟩ (.slice v.A v.n v.c)) b u q := fun b u q hb hB =>
    hB.stay (Nat.le_of_eq size_cells.symm) fun b' _ hl => far_cells (by omega)
  refine ⟨_, fun i => if i = k then D else C i, fun i => if i = k then gk else g i, RowSt.put (R3.keep hr hw) k v, fun i hi => ?_, fun i j hij hj => ?_⟩
  · by_cases e : i = k
    · simp only [if_pos e]
      rw [e]
      exact ⟨hv, eA, by omega, far _ _ _ (by omega) hN⟩
    · simp only [if_neg e]
      obtain ⟨c1, c2, c3, c4⟩ := hc i (by omega)
      exact ⟨c1, c2, c3, far _ _ _ c3 (c4.keep hw)⟩
  · have hik : i ≠ k := by omega
    simp only [if_neg hik]
    by_cases e : j = k
    · simp only [if_pos e]
      obtain ⟨c1, c2, c3, c4⟩ := hc i (by omega)
      refine ⟨Nat.lt_of_lt_of_le (R3.lt c4.1) hge, fun p hp => Nat.lt_of_lt_of_le (c4.2.1 p hp).2.2.lt hge⟩
    · simp only [if_neg e]
      exact ho i j hij (by omega)
def NewM (w : World) (S n : Nat) (st : Nat → StV) (C : Nat → Nat) (g : Nat → Nat → Nat) : Prop :=
  RowSt w S n st ∧ (∀ i, i < n → (st i).A = some ⟨C i, 0, none⟩ ∧ S < C i ∧ NewS w (C i) (st i) (g i)) ∧ ∀ i i', i < i' → i' < n → C i < C i' ∧ ∀ j, j < (st i).n → g i j < C i'
theorem NwO.done {w : World} {S n : Nat} {tg : Nat → StV} (h : NwO w S n n tg) : ∃ (st : Nat → StV) (C : Nat → Nat) (g : Nat → Nat → Nat), NewM w S n st C g ∧ ∀ i, i < n → StL (st i) (tg i) := by
  obtain ⟨st, C, g, hr, hc, ho⟩ := h
  exact ⟨st, C, g, ⟨hr, fun i hi => (hc i hi).2, ho⟩, fun i hi => (hc i hi).1⟩
theorem NewM.stay {w w' : World} {S n : Nat} {st : Nat → StV} {C : Nat → Nat} {g : Nat → Nat → Nat} (h : NewM w S n st C g) (hs : w.heap.size ≤ w'.heap.size) (hb : ∀ b, b < w.heap.size → S ≤ b → w'.heap[b]? = w.heap[b]?) : NewM w' S n st C g :=
  ⟨R3.block h.1 (hb S (R3.lt h.1) (Nat.le_refl _)), fun i hi => by
    obtain ⟨e, hl, hN⟩ := h.2.1 i hi
    exact ⟨e, hl, hN.stay hs fun b hlt hp => hb b hlt (Nat.le_trans (Nat.le_of_lt hl) hp)⟩, h.2.2⟩
theorem NewM.keep {w w' : World} {S n : Nat} {st : Nat → StV} {C : Nat → Nat} {g : Nat → Nat → Nat} (h : NewM w S n st C g) (hb : Below w.heap.size w w') : NewM w' S n st C g := h.stay hb.size fun b hlt _ => hb.block b hlt
theorem NewM.lst {lo : Nat} {w : World} {S n : Nat} {st : Nat → StV} {C : Nat → Nat} {g : Nat → Nat → Nat} (h : NewM w S n st C g) (hl : lo ≤ S) : LstP (fun b => lo ≤ b) w (some ⟨S, 0, none⟩) n st :=
  ⟨R3.rows h.1 hl, fun i hi => by
    obtain ⟨e, hS, hN⟩ := h.2.1 i hi
    exact hN.stP e fun b hb => Nat.le_trans hl (Nat.le_trans (Nat.le_of_lt hS) hb)⟩
def setSt (s : StV) (j : Nat) (h' : ChV) : StV := ⟨s.ow, s.mrk, s.A, s.n, s.c, fun j' => if j' = j then h' else s.ch j'⟩
def setMo (st : Nat → StV) (i j : Nat) (h' : ChV) : Nat → StV := fun i' => if i' = i then setSt (st i) j h' else st i'
theorem setMo_sh (st : Nat → StV) (i j : Nat) (h' : ChV) (a : Nat) : (setMo st i j h' a).ow = (st a).ow ∧ (setMo st i j h' a).mrk = (st a).mrk ∧ (setMo st i j h' a).A = (st a).A ∧ (setMo st i j h' a).n = (st a).n ∧ (setMo st i j h' a).c = (st a).c := by
  unfold setMo
  by_cases q : a = i
  · rw [if_pos q, q]
    exact ⟨rfl, rfl, rfl, rfl, rfl⟩
  · rw [if_neg q]
    exact ⟨rfl, rfl, rfl, rfl, rfl⟩
theorem NewM.put {w w' : World} {S n : Nat} {st : Nat → StV} {C : Nat → Nat} {g : Nat → Nat → Nat} (h : NewM w S n st C g) {i j : Nat} (hi : i < n) (hj : j < (st i).n) (h' : ChV)
    (e1 : h'.t = ((st i).ch j).t) (e2 : h'.l = ((st i).ch j).l) (e3 : h'.A = ((st i).ch j).A) (e4 : h'.n = ((st i).ch j).n) (e5 : h'.c = ((st i).ch j).c)
    (hs : w.heap.size ≤ w'.heap.size) (hb : ∀ b, b < w.heap.size → b ≠ g i j → w'.heap[b]? = w.heap[b]?) (hB : BkB w' (g i j) h') : NewM w' S n (setMo st i j h') C g := by
  obtain ⟨hr, hc, ho⟩ := h
  obtain ⟨ei, li, Ni⟩ := hc i hi
  obtain ⟨ej, lj, Bj⟩ := Ni.2.1 j hj
  have hn : ∀ i', (setMo st i j h' i').n = (st i').n := fun i' => (setMo_sh st i j h' i').2.2.2.1
  have hA : ∀ i', (setMo st i j h' i').A = (st i').A := fun i' => (setMo_sh st i j h' i').2.2.1
  refine ⟨?_, fun i' hi' => ?_, fun a b hab hbn => ?_⟩
  · refine R3.congr (R3.block hr (hb S (R3.lt hr) (by omega))) (fun a _ => ?_) (fun a _ => ?_) (fun a _ => ?_)
    · show _ = Value.int .i64 (setMo st i j h' a).ow
      rw [(setMo_sh st i j h' a).1]
    · show _ = Value.int .i64 (setMo st i j h' a).mrk
      rw [(setMo_sh st i j h' a).2.1]
    · show _ = Value.slice (setMo st i j h' a).A (setMo st i j h' a).n (setMo st i j h' a).c
      rw [(setMo_sh st i j h' a).2.2.1, (setMo_sh st i j h' a).2.2.2.1, (setMo_sh st i j h' a).2.2.2.2]
  · obtain ⟨ea, la, Na⟩ := hc i' hi'
    refine ⟨by rw [hA]; exact ea, la, ?_⟩
    by_cases q : i' = i
    · subst q
      have e0 : setMo st i' j h' i' = setSt (st i') j h' := if_pos rfl
      rw [e0]
      refine ⟨?_, fun j' hj' => ?_, Na.2.2⟩
      · refine R3.congr (R3.block Na.1 (hb _ (R3.lt Na.1) (by omega))) (fun a _ => ?_) (fun a _ => ?_) (fun a _ => ?_)
        · show _ = Value.int .i64 (if a = j then h' else (st i').ch a).t
          split
          · rename_i q; rw [q, e1]
          · rfl
        · show _ = Value.int .i64 (if a = j then h' else (st i').ch a).l
          split
          · rename_i q; rw [q, e2]
          · rfl
        · show _ = Value.slice (if a = j then h' else (st i').ch a).A (if a = j then h' else (st i').ch a).n (if a = j then h' else (st i').ch a).c
          split
          · rename_i q; rw [q, e3, e4, e5]
          · rfl
      · show (if j' = j then h' else (st i').ch j').A = _ ∧ _ ∧ BkB w' (g i' j') (if j' = j then h' else (st i').ch j')
        by_cases p : j' = j
        · subst p
          rw [if_pos rfl]
          exact ⟨e3.trans ej, lj, hB⟩
        · rw [if_neg p]
          obtain ⟨a1, a2, a3⟩ := Na.2.1 j' hj'
          refine ⟨a1, a2, a3.block hs (hb _ a3.lt ?_)⟩
          rcases Nat.lt_or_ge j' j with r | r
          · exact Nat.ne_of_lt (Na.2.2 j' j r hj)
          · exact Nat.ne_of_gt (Na.2.2 j j' (by omega) hj')
    · have e0 : setMo st i j h' i' = st i' := if_neg q
      rw [e0]
      refine ⟨R3.block Na.1 (hb _ (R3.lt Na.1) ?_), fun j' hj' => ?_, Na.2.2⟩
      · rcases Nat.lt_or_ge i' i with r | r
        · have := (ho i' i r hi).1; omega
        · exact Nat.ne_of_gt ((ho i i' (by omega) hi').2 j hj)
      · obtain ⟨a1, a2, a3⟩ := Na.2.1 j' hj'
        refine ⟨a1, a2, a3.block hs (hb _ a3.lt ?_)⟩
        rcases Nat.lt_or_ge i' i with r | r
        · have := (ho i' i r hi).2 j' hj'; omega
        · have := (ho i i' (by omega) hi').2 j hj; omega
  · obtain ⟨o1, o2⟩ := ho a b hab hbn
    exact ⟨o1, fun p hp => o2 p (by rw [hn] at hp; exact hp)⟩
def RetNw (n : Nat) (tg : Nat → StV) (w : World) (e : Ending) (w' : World) : Prop :=
  ∃ (S c : Nat) (st : Nat → StV) (C : Nat → Nat) (g : Nat → Nat → Nat), e = .returned (.agg #[.slice (some ⟨S, 0, none⟩) n c]) ∧ w.heap.size ≤ S ∧ NewM w' S n st C g ∧ (∀ i, i < n → StL (st i) (tg i)) ∧ Below w.heap.size w w'
end Go.Proofs.YtmfnpipmbpnfbaaGreatDoor
