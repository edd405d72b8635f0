/- Integers of the reference in memory: those that do not make lists. Integers of the reference in memory: their opposites, their small values, their digits. Integers of the reference in memory: out of digits. Integers of the reference in memory: their digits; ints as integers. -/
import Derived.Test.YtabaknkjcoibpaaGreatDoorM08

namespace Go.Proofs.YtabaknkjcoibpaaGreatDoor
open Go.RowKit

/-- From here on an integer has digits. -/
def Edge : Nat := 2305843009213693952
theorem Edge_eq : Edge = 2305843009213693952 := rfl

/-- The parts of an integer of the reference read as z. -/
def RI (w : World) (s : Int) (neg : Bool) (A : Option Addr) (n c : Nat) (z : Int) : Prop :=
  ∃ l, l.length = n ∧ (n ≤ c ∧ c ≤ 9223372036854775807) ∧ Dl l ∧ Lc w A l ∧ ((n = 0 ∧ s = z ∧ neg = false ∧ z.natAbs < Edge) ∨ (0 < n ∧ s = 0 ∧ neg = decide (z < 0) ∧ Nz l ∧ val l = z.natAbs ∧ Edge ≤ z.natAbs))
theorem RI.keep {w w' : World} {s : Int} {neg : Bool} {A : Option Addr} {n c : Nat} {z : Int} (h : RI w s neg A n c z) (hb : Below w.heap.size w w') : RI w' s neg A n c z := by
  obtain ⟨l, h1, h2, h3, h4, h5⟩ := h
  exact ⟨l, h1, h2, h3, h4.keep hb, h5⟩
theorem RI.set {w : World} {s : Int} {neg : Bool} {A : Option Addr} {n c : Nat} {z : Int} (h : RI w s neg A n c z) {k T : Nat} (hb : Bx w k T) (hT : T ≠ 3) (o : Nat) (u : Value) : RI (w.setCell ⟨k, o, none⟩ u) s neg A n c z := by
  obtain ⟨l, h1, h2, h3, h4, h5⟩ := h
  exact ⟨l, h1, h2, h3, h4.set hb hT o u, h5⟩
theorem RI.small (w : World) {z : Int} (h : z.natAbs < Edge) (A : Option Addr) (c : Nat) (hc : c ≤ 9223372036854775807) : RI w z false A 0 c z :=
  ⟨[], rfl, ⟨Nat.zero_le _, hc⟩, Dl.nil, Lc.nil w A, Or.inl ⟨rfl, rfl, rfl, h⟩⟩
theorem RI.len {w : World} {s : Int} {neg : Bool} {A : Option Addr} {n c : Nat} {z : Int} (h : RI w s neg A n c z) {k : Nat} (hz : z.natAbs < Bs ^ k) : n ≤ k := by
  obtain ⟨l, h1, h2, h3, h4, ⟨e, _⟩ | ⟨_, _, _, h5, h6, _⟩⟩ := h
  · omega
  · rw [← h1]
    exact len_le h5 (by rw [h6]; exact hz)

/-- What a function returns that makes an integer. -/
def RetI (z : Int) (w : World) (e : Ending) (w' : World) : Prop := ∃ s neg A n c, e = .returned (.agg #[.int .i64 s, .bool neg, .slice A n c]) ∧ RI w' s neg A n c z ∧ Below w.heap.size w w'

/-- A box of three cells that may be written. -/
def W3 (g : Nat) (w : World) : Prop := (∃ p q r, w.cell? ⟨g, 0, none⟩ = some p ∧ w.cell? ⟨g, 1, none⟩ = some q ∧ w.cell? ⟨g, 2, none⟩ = some r) ∧ w.frozen? ⟨g, 0, none⟩ = false ∧ w.frozen? ⟨g, 1, none⟩ = false ∧ w.frozen? ⟨g, 2, none⟩ = false ∧ Bx w g 84
theorem W3.keep {g : Nat} {w w' : World} (h : W3 g w) (hB : Below w.heap.size w w') : W3 g w' := by
  obtain ⟨⟨p, q, r, h1, h2, h3⟩, f1, f2, f3, hx⟩ := h
  have hz := hx.lt
  exact ⟨⟨p, q, r, (hB.cell (p := ⟨g, 0, none⟩) hz).trans h1, (hB.cell (p := ⟨g, 1, none⟩) hz).trans h2, (hB.cell (p := ⟨g, 2, none⟩) hz).trans h3⟩,
    (hB.frozen (p := ⟨g, 0, none⟩) hz).trans f1, (hB.frozen (p := ⟨g, 1, none⟩) hz).trans f2, (hB.frozen (p := ⟨g, 2, none⟩) hz).trans f3, hx.keep hB⟩
theorem W3.new (w : World) (p q r : Value) {g : Nat} (hg : g = w.heap.size) : W3 g (w.alloc (.cells #[p, q, r] 84)) := by
  subst hg
  refine ⟨⟨p, q, r, ?_, ?_, ?_⟩, ?_, ?_, ?_, Bx.new w _ 84⟩ <;> simp [go_sem]
theorem W3.drewN {g : Nat} {w : World} (h : W3 g w) (k : Nat) : W3 g (w.drewN k) := h
/-- A box of three cells holds these values. -/
def B3 (g : Nat) (p q r : Value) (w : World) : Prop := w.cell? ⟨g, 0, none⟩ = some p ∧ w.cell? ⟨g, 1, none⟩ = some q ∧ w.cell? ⟨g, 2, none⟩ = some r ∧ g < w.heap.size
theorem B3.new (w : World) (p q r : Value) : B3 w.heap.size p q r (w.alloc (.cells #[p, q, r] 84)) := by simp [B3, go_sem]
theorem B3.keep {g : Nat} {p q r : Value} {w w' : World} (h : B3 g p q r w) (hB : Below w.heap.size w w') : B3 g p q r w' :=
  ⟨(hB.cell (p := ⟨g, 0, none⟩) h.2.2.2).trans h.1, (hB.cell (p := ⟨g, 1, none⟩) h.2.2.2).trans h.2.1, (hB.cell (p := ⟨g, 2, none⟩) h.2.2.2).trans h.2.2.1, Nat.lt_of_lt_of_le h.2.2.2 hB.size⟩

/-- The result is laid into its box. -/
theorem retI_box {s z : Int} {neg : Bool} {A : Option Addr} {n c g : Nat} {w w1 : World} (h : RI w1 s neg A n c z) (hx : Bx w1 g 84) (hB : Below w.heap.size w w1) (hg : w.heap.size ≤ g) :
    RetI z w (.returned (.agg #[.int .i64 s, .bool neg, .slice A n c])) (((w1.setCell ⟨g, 0, none⟩ (.int .i64 s)).setCell ⟨g, 1, none⟩ (.bool neg)).setCell ⟨g, 2, none⟩ (.slice A n c)) :=
  ⟨s, neg, A, n, c, rfl, ((h.set hx (by decide) _ _).set (hx.set _ _ _) (by decide) _ _).set ((hx.set _ _ _).set _ _ _) (by decide) _ _, ((hB.setCell hg _).setCell hg _).setCell hg _⟩

/-- -1, 0 or 1. -/
def sgnI (z : Int) : Int := if z < 0 then -1 else if z = 0 then 0 else 1

set_option maxRecDepth 100000 in
set_option maxHeartbeats 1000000 in
theorem rsign_any (s : Int) (neg : Bool) (A : Option Addr) (n c : Nat) (z : Int) (w : World) (h : RI w s neg A n c z) (hn : n ≤ 1000000) :
    Calls Tryz.prog 108 #[.agg #[.int .i64 s, .bool neg, .slice A n c]] w fun e w' => e = .returned (.int .i64 (sgnI z)) ∧ Below w.heap.size w w' := by
  obtain ⟨l, -, -, -, -, ⟨rfl, rfl, rfl, -⟩ | ⟨h1, rfl, h3, -, -, h6⟩⟩ := h
  · rcases Int.lt_trichotomy s 0 with h | h | h
    · have e : sgnI s = -1 := if_pos h
      rw [e]; clear e
      have hd := decide_eq_true h
      go_enter Tryz.func108, Tryz.ntmps108
      go_wp2_with fail
      go_ret
      exact ⟨rfl, below_alloc w _⟩
    · subst h
      go_enter Tryz.func108, Tryz.ntmps108
      go_wp2_with fail
      go_ret
      exact ⟨rfl, below_alloc w _⟩
    · have e : sgnI s = 1 := by unfold sgnI; rw [if_neg (by omega), if_neg (by omega)]
      rw [e]; clear e
      have hd : ¬ s < 0 := by omega
      go_enter Tryz.func108, Tryz.ntmps108
      go_wp2_with fail
      go_ret
      exact ⟨rfl, below_alloc w _⟩
  · rw [Edge_eq] at h6
    cases hz : decide (z < 0)
    · have e : sgnI z = 1 := by have := of_decide_eq_false hz; unfold sgnI; rw [if_neg (by omega), if_neg (by omega)]
      rw [hz] at h3
      subst h3
      rw [e]
      clear e hz h6
      go_enter Tryz.func108, Tryz.ntmps108
      go_wp2_with fail
      go_ret
      exact ⟨rfl, below_alloc w _⟩
    · have e : sgnI z = -1 := if_pos (of_decide_eq_true hz)
      rw [hz] at h3
      subst h3
      rw [e]
      clear e hz h6
      go_enter Tryz.func108, Tryz.ntmps108
      go_wp2_with fail
      go_ret
      exact ⟨rfl, below_alloc w _⟩

end Go.Proofs.YtabaknkjcoibpaaGreatDoor

namespace Go.Proofs.YtabaknkjcoibpaaGreatDoor
open Go.RowKit

theorem retI {s z : Int} {neg : Bool} {A : Option Addr} {n c : Nat} {w w1 : World} (h : RI w1 s neg A n c z) (hB : Below w.heap.size w w1) : RetI z w (.returned (.agg #[.int .i64 s, .bool neg, .slice A n c])) w1 := ⟨s, neg, A, n, c, rfl, h, hB⟩
theorem below_two (w : World) (o o' : Obj) : Below w.heap.size w ((w.alloc o).alloc o') := ((Below.refl _ _).alloc (Nat.le_refl _) _).alloc (by simp) _

set_option maxRecDepth 100000 in
set_option maxHeartbeats 1000000 in
theorem rminus_any (s : Int) (neg : Bool) (A : Option Addr) (n c : Nat) (z : Int) (w : World) (h : RI w s neg A n c z) (hn : n ≤ 1000000) :
    Calls Tryz.prog 136 #[.agg #[.int .i64 s, .bool neg, .slice A n c]] w (RetI (-z) w) := by
  obtain ⟨l, h1, h2, h3, h4, ⟨rfl, rfl, rfl, h5⟩ | ⟨h5, rfl, h6, h7, h8, h9⟩⟩ := h
  · have HR : Hid (∀ wx, Below w.heap.size w wx → RI wx (-s) false A 0 c (-s)) := fun wx _ => RI.small wx (by rw [Int.natAbs_neg]; exact h5) A c h2.2
    have hw : IntKind.i64.wrap (-s) = -s := IntWalk.i64_in _ (by rw [Edge_eq] at h5; omega)
    obtain ⟨t, ht⟩ : ∃ t, -s = t := ⟨_, rfl⟩
    rw [ht] at HR hw ⊢
    have hw : IntKind.i64.wrap (-s) = t := by rw [ht]; exact hw
    clear h1 h2 h3 h4 h5
    go_enter Tryz.func136, Tryz.ntmps136
    go_wp2_with fail
    exact bodyPost_ret (v := .agg #[.int .i64 t, .bool false, .slice A 0 c]) (by simp [results, Tryz.results136, go_sem]) rfl (retI (HR.out _ (below_two w _ _)) (below_two w _ _))
  · have HR : Hid (∀ wx, Below w.heap.size w wx → RI wx 0 (!neg) A n c (-z)) := fun wx hb => ⟨l, h1, h2, h3, h4.keep hb, Or.inr ⟨h5, rfl, by
      rw [h6]
      rw [Edge_eq] at h9
      by_cases hz : z < 0
      · rw [decide_eq_true hz, decide_eq_false (by omega)]; rfl
      · rw [decide_eq_false hz, decide_eq_true (by omega)]; rfl, h7, by rw [Int.natAbs_neg]; exact h8, by rw [Int.natAbs_neg]; exact h9⟩⟩
    clear h1 h2 h3 h4 h6 h7 h8 h9
    go_enter Tryz.func136, Tryz.ntmps136
    go_wp2_with fail
    exact bodyPost_ret (v := .agg #[.int .i64 0, .bool (!neg), .slice A n c]) (by simp [results, Tryz.results136, go_sem]) rfl (retI (HR.out _ (below_two w _ _)) (below_two w _ _))

/-- What Small returns. -/
def smallV (z : Int) : Value := if z.natAbs ≤ 1152921504606846976 then .tuple #[.int .i64 z, .bool true] else .tuple #[.int .i64 0, .bool false]
set_option maxRecDepth 100000 in
set_option maxHeartbeats 1000000 in
theorem rsmall_any (s : Int) (neg : Bool) (A : Option Addr) (n c : Nat) (z : Int) (w : World) (h : RI w s neg A n c z) (hn : n ≤ 1000000) :
    Calls Tryz.prog 69 #[.agg #[.int .i64 s, .bool neg, .slice A n c]] w fun e w' => e = .returned (smallV z) ∧ Below w.heap.size w w' := by
  obtain ⟨l, -, -, -, -, ⟨rfl, rfl, rfl, -⟩ | ⟨h1, rfl, h3, -, -, h6⟩⟩ := h
  · by_cases g1 : 1152921504606846976 < s
    · have e : smallV s = .tuple #[.int .i64 0, .bool false] := if_neg (by omega)
      rw [e]; clear e
      have hd := decide_eq_true g1
      clear g1
      go_enter Tryz.func69, Tryz.ntmps69
      go_wp2_with fail
      go_ret2
      exact ⟨rfl, below_alloc w _⟩
    · by_cases g2 : s < -1152921504606846976
      · have e : smallV s = .tuple #[.int .i64 0, .bool false] := if_neg (by omega)
        rw [e]; clear e
        have hd := decide_eq_false g1
        have hd2 := decide_eq_true g2
        clear g1 g2
        go_enter Tryz.func69, Tryz.ntmps69
        go_wp2_with fail
        go_ret2
        exact ⟨rfl, below_alloc w _⟩
      · have e : smallV s = .tuple #[.int .i64 s, .bool true] := if_pos (by omega)
        rw [e]; clear e
        have hd := decide_eq_false g1
        have hd2 := decide_eq_false g2
        clear g1 g2
        go_enter Tryz.func69, Tryz.ntmps69
        go_wp2_with fail
        go_ret2
        exact ⟨rfl, below_alloc w _⟩
  · have e : smallV z = .tuple #[.int .i64 0, .bool false] := if_neg (by rw [Edge_eq] at h6; omega)
    rw [e]
    clear e h6 h3
    go_enter Tryz.func69, Tryz.ntmps69
    go_wp2_with fail
    go_ret2
    exact ⟨rfl, below_alloc w _⟩

end Go.Proofs.YtabaknkjcoibpaaGreatDoor

namespace Go.Proofs.YtabaknkjcoibpaaGreatDoor
open Go.RowKit

theorem Lc.at {w : World} {b off : Nat} {l : List Nat} (h : Lc w (some ⟨b, off, none⟩) l) {i : Nat} (hi : i < l.length) : w.cell? ⟨b, off + i, none⟩ = some (.int .i64 ((l.getD i 0 : Nat) : Int)) := by
  obtain ⟨b', off', hA, -, hc⟩ := h (by omega)
  injection hA with hA
  injection hA with e1 e2
  subst e1 e2
  exact hc i hi

theorem val_drop_le (l : List Nat) (k : Nat) : val (l.drop k) ≤ val l := by
  by_cases h : k ≤ l.length
  · rw [val_split l h]
    have h1 : 1 * val (l.drop k) ≤ Bs ^ k * val (l.drop k) := Nat.mul_le_mul_right _ (Bs_pow_pos k)
    omega
  · rw [List.drop_of_length_le (by omega)]
    exact Nat.zero_le _

/-- What a digit and the ones above it are. -/
theorem val_three {l : List Nat} (h : l.length = 3) : val l = val (l.take 2) + Bs ^ 2 * l.getD 2 0 := by
  rw [← val_take_succ, val_take_all (by omega)]

theorem small_three {l : List Nat} (hd : Dl l) (h : l.length = 3) : l.getD 2 0 < 2 ↔ val l < Edge := by
  have h1 := val_lt (hd.take 2)
  rw [List.length_take, h] at h1
  have e : Bs ^ 2 = 1152921504606846976 := by rw [Bs_eq]
  rw [val_three h, Edge_eq]
  simp only [show min 2 3 = 2 from rfl, e] at h1 ⊢
  omega
theorem small_two {l : List Nat} (hd : Dl l) (h : l.length ≤ 2) : val l < Edge := by
  have h1 := val_lt hd
  have h2 : Bs ^ l.length ≤ Bs ^ 2 := Nat.pow_le_pow_right Bs_pos h
  have e : Bs ^ 2 = 1152921504606846976 := by rw [Bs_eq]
  rw [e] at h2
  rw [Edge_eq]
  omega
theorem big_four {l : List Nat} (hz : Nz l) (h : 4 ≤ l.length) : Edge ≤ val l := by
  have h1 := Nz_ge hz (by intro e; rw [e] at h; simp at h)
  have h2 : Bs ^ 3 ≤ Bs ^ (l.length - 1) := Nat.pow_le_pow_right Bs_pos (by omega)
  have e : Bs ^ 3 = 1237940039285380274899124224 := by rw [Bs_eq]
  rw [e] at h2
  rw [Edge_eq]
  omega

/-- The integer with a sign and an absolute value. -/
def sgz (neg : Bool) (x : Nat) : Int := if neg then -(x : Int) else (x : Int)
theorem sgz_abs (neg : Bool) (x : Nat) : (sgz neg x).natAbs = x := by cases neg <;> simp [sgz]

/-- A row of digits without zeros at its end is an integer with digits. -/
theorem RI.big {w : World} {A : Option Addr} {c : Nat} {l : List Nat} {neg : Bool} (hc : l.length ≤ c ∧ c ≤ 9223372036854775807) (hd : Dl l) (hA : Lc w A l) (hz : Nz l) (h : Edge ≤ val l) : RI w 0 neg A l.length c (sgz neg (val l)) := by
  refine ⟨l, rfl, hc, hd, hA, Or.inr ⟨?_, rfl, ?_, hz, (sgz_abs _ _).symm, by rw [sgz_abs]; exact h⟩⟩
  · rcases List.eq_nil_or_concat l with h1 | ⟨_, _, h1⟩
    · rw [h1, Edge_eq] at h; simp [val] at h
    · rw [h1]; simp
  · rw [Edge_eq] at h
    cases neg
    · exact (decide_eq_false (by simp [sgz])).symm
    · exact (decide_eq_true (by simp [sgz]; omega)).symm

set_option maxRecDepth 100000 in
set_option maxHeartbeats 4000000 in
theorem made_any (neg : Bool) (A : Option Addr) (n c : Nat) (l0 : List Nat) (w : World) (hl0 : l0.length = n) (hn : n ≤ c) (hc : c ≤ 9223372036854775807) (hd0 : Dl l0) (hA : Lc w A l0) :
    Calls Tryz.prog 135 #[.bool neg, .slice A n c] w (RetI (sgz neg (val l0)) w) := by
  have HL0 := Lib.hid hl0
  have HD0 := Lib.hid hd0
  clear hl0 hd0
  go_enter Tryz.func135, Tryz.ntmps135
  go_upto_block 0 with fail
  generalize hX : w.alloc _ = X
  have HX : Hid (Below w.heap.size w X ∧ W3 w.heap.size X ∧ Lc X A l0) := by
    subst hX
    exact ⟨below_alloc w _, W3.new w _ _ _ rfl, hA.keep (below_alloc w _)⟩
  clear hX hA
  go_cut [1] (fun s wx => X = wx ∧ ∃ k : Nat, k ≤ n ∧ s = .slice A k c ∧ Hid (Nz (l0.take k) ∧ val (l0.take k) = val l0))
  case first =>
    go_wp2_with fail
    go_loop [1] (fun s => ∃ k : Nat, k ≤ n ∧ s = .slice A k c ∧ Hid (val (l0.take k) = val l0)) (fun s => slen s)
    case atStart => exact ⟨n, Nat.le_refl _, rfl, by rw [← HL0.out]; exact val_take_all (Nat.le_refl _)⟩
    case round =>
      obtain ⟨k, hk, rfl, hv⟩ := hrel
      rcases Nat.eq_zero_or_pos k with h0 | h0
      · subst h0
        go_wp2_with fail
        go_meet
        exact ⟨rfl, 0, Nat.zero_le _, rfl, Or.inl rfl, hv.out⟩
      · obtain ⟨b, off, hA', hb, hcell⟩ := HX.out.2.2 (by rw [HL0.out]; omega)
        subst hA'
        have hcell1 := hcell (k - 1) (by rw [HL0.out]; omega)
        clear hcell
        obtain ⟨x, hx⟩ : ∃ x, l0.getD (k - 1) 0 = x := ⟨_, rfl⟩
        rw [hx] at hcell1
        have HX1 := Lib.hid hx
        clear hx
        by_cases hz : x = 0
        · have hv2 : Hid (val (l0.take (k - 1)) = val l0) := by
            have := hv.out
            obtain ⟨m, rfl⟩ : ∃ m, k = m + 1 := ⟨k - 1, by omega⟩
            rw [val_take_succ] at this
            have h2 := HX1.out
            simp only [Nat.add_sub_cancel] at h2 ⊢
            rw [h2, hz] at this
            show val (l0.take m) = val l0
            simpa using this
          subst hz
          go_wp2_with fail
          exact ⟨⟨k - 1, by omega, rfl, hv2⟩, by simp [slen]; omega⟩
        · have hz2 : ((x : Int) == 0) = false := by simpa using hz
          have HZ := Lib.hid hz
          clear hz
          go_wp2_with fail
          go_meet
          refine ⟨rfl, k, hk, rfl, Or.inr ?_, hv.out⟩
          rw [List.length_take, Nat.min_eq_left (by rw [HL0.out]; exact hk), getD_take (by omega), HX1.out]
          exact HZ.out
  case rest =>
    obtain ⟨rfl, k, hk, rfl, hNZ⟩ := hcut
    obtain ⟨L, hL⟩ : ∃ L, l0.take k = L := ⟨_, rfl⟩
    have HLL : Hid (L.length = k) := by
      show L.length = k
      rw [← hL, List.length_take, HL0.out]
      omega
    have HLD : Hid (Dl L) := by rw [← hL]; exact HD0.out.take k
    have HLC : Hid (Lc X A L) := by rw [← hL]; exact HX.out.2.2.take k
    have HLZ : Hid (Nz L) := by rw [← hL]; exact hNZ.out.1
    have HLV : Hid (val L = val l0) := by rw [← hL]; exact hNZ.out.2
    clear hNZ hL
    rcases Nat.lt_or_ge 3 k with h4 | h4
    · have HE : Hid (Edge ≤ val L) := big_four HLZ.out (by rw [HLL.out]; omega)
      obtain ⟨⟨p1, p2, p3, p4, p5, p6⟩, p7, p8, p9, p10⟩ := HX.out.2.1
      have HP10 := Lib.hid p10
      clear p10
      have HBIG := Lib.hid (RI.big (neg := neg) (c := c) ⟨by rw [HLL.out]; omega, hc⟩ HLD.out HLC.out HLZ.out HE.out)
      go_wp2_with fail
      exact bodyPost_ret (v := .agg #[.int .i64 0, .bool neg, .slice A k c]) (by simp [results, Tryz.results135, go_sem, *]) rfl (by
        rw [← HLV.out, ← HLL.out]
        exact retI_box HBIG.out HP10.out HX.out.1 (Nat.le_refl _))
    · by_cases h3 : k = 3
      · have g1 : ((k : Int) == 3) = true := by rw [h3]; rfl
        have g2 : 2 < (k : Int) := by omega
        have HT := Lib.hid (small_three HLD.out (by rw [HLL.out, h3]))
        have HK3 := Lib.hid h3
        clear h3
        obtain ⟨b, off, hA', -, hcells⟩ := HLC.out (by rw [HLL.out]; omega)
        subst hA'
        have hc2 := hcells 2 (by rw [HLL.out]; omega)
        clear hcells
        obtain ⟨x, hx⟩ : ∃ x, L.getD 2 0 = x := ⟨_, rfl⟩
        rw [hx] at hc2
        have HX2 := Lib.hid hx
        clear hx
        by_cases h2 : x < 2
        · have HE : Hid (val L < 2305843009213693952) := HT.out.1 (by rw [HX2.out]; exact h2)
          have hd : decide (2 ≤ (x : Int)) = false := decide_eq_false (by omega)
          clear h2
          go_wp2_with fail
          go_loop [5, 6] (fun s i => ∃ j : Nat, j ≤ k ∧ s = .int .i64 ((val (L.drop j) : Nat) : Int) ∧ i = .int .i64 ((j : Int) - 1)) (fun _ i => (intOf i + 1).toNat)
          case atStart => exact ⟨k, Nat.le_refl _, by rw [List.drop_of_length_le (by rw [HLL.out]; omega)]; rfl, rfl⟩
          case round =>
            obtain ⟨j, hj, rfl, rfl⟩ := hrel
            rcases Nat.eq_zero_or_pos j with h0 | h0
            · subst h0
              rw [show (((0 : Nat) : Int) - 1) = -1 from rfl, List.drop_zero]
              have hvl : val L < 2305843009213693952 := HE.out
              have HV2 := Lib.hid (HLV.out)
              generalize hvx : val L = x at hvl HV2 ⊢
              clear hvx
              have hwr : IntKind.i64.wrap (-(x : Int)) = -(x : Int) := IntWalk.i64_in _ (by omega)
              obtain ⟨⟨p1, p2, p3, p4, p5, p6⟩, p7, p8, p9, p10⟩ := HX.out.2.1
              have HP10 := Lib.hid p10
              clear p10
              cases neg
              · go_wp2_with fail
                exact bodyPost_ret (v := .agg #[.int .i64 (x : Int), .bool false, .slice none 0 0]) (by simp [results, Tryz.results135, go_sem, *]) rfl (retI_box (by rw [← HV2.out]; exact RI.small _ (by rw [Edge_eq]; omega) _ _ (Nat.zero_le _)) HP10.out HX.out.1 (Nat.le_refl _))
              · go_wp2_with fail
                exact bodyPost_ret (v := .agg #[.int .i64 (-(x : Int)), .bool false, .slice none 0 0]) (by simp [results, Tryz.results135, go_sem, *]) rfl (retI_box (by rw [← HV2.out]; exact RI.small _ (by rw [Edge_eq]; omega) _ _ (Nat.zero_le _)) HP10.out HX.out.1 (Nat.le_refl _))
            · obtain ⟨m, rfl⟩ : ∃ m, j = m + 1 := ⟨j - 1, by omega⟩
              have ej : (((m + 1 : Nat) : Int) - 1) = (m : Int) := by omega
              rw [ej]
              clear ej h0
              have hc1 := HLC.out.at (i := m) (by rw [HLL.out]; omega)
              have hstep : Hid (val (L.drop m) = L.getD m 0 + Bs * val (L.drop (m + 1))) := val_drop (by rw [HLL.out]; omega)
              have hle : val (L.drop m) < 2305843009213693952 := Nat.lt_of_le_of_lt (val_drop_le L m) HE.out
              rw [hstep.out, Bs_eq] at hle
              obtain ⟨x, hx⟩ : ∃ x, L.getD m 0 = x := ⟨_, rfl⟩
              obtain ⟨y, hy⟩ : ∃ y, val (L.drop (m + 1)) = y := ⟨_, rfl⟩
              rw [hx] at hc1
              rw [hx, hy] at hle
              rw [hy]
              have HX1 := Lib.hid hx
              have HY1 := Lib.hid hy
              clear hx hy
              go_wp2_with fail
              exact ⟨⟨m, by omega, int_eq (by rw [hstep.out, HX1.out, HY1.out, Bs_eq]; omega), rfl⟩, by simp [intOf]⟩
        · have HE : Hid (Edge ≤ val L) := by
            have := HT.out
            rw [HX2.out] at this
            show Edge ≤ val L
            omega
          have hd : decide (2 ≤ (x : Int)) = true := decide_eq_true (by omega)
          clear h2
          obtain ⟨⟨p1, p2, p3, p4, p5, p6⟩, p7, p8, p9, p10⟩ := HX.out.2.1
          have HP10 := Lib.hid p10
          clear p10
          have HBIG := Lib.hid (RI.big (neg := neg) (c := c) ⟨by rw [HLL.out]; omega, hc⟩ HLD.out HLC.out HLZ.out HE.out)
          go_wp2_with fail
          exact bodyPost_ret (v := .agg #[.int .i64 0, .bool neg, .slice (some ⟨b, off, none⟩) k c]) (by simp [results, Tryz.results135, go_sem, *]) rfl (by
            rw [← HLV.out, ← HLL.out]
            exact retI_box HBIG.out HP10.out HX.out.1 (Nat.le_refl _))
      · have HE : Hid (val L < 2305843009213693952) := small_two HLD.out (by rw [HLL.out]; omega)
        have hk2 : k < 3 := by omega
        clear h4 h3
        go_wp2_with fail
        go_loop [5, 6] (fun s i => ∃ j : Nat, j ≤ k ∧ s = .int .i64 ((val (L.drop j) : Nat) : Int) ∧ i = .int .i64 ((j : Int) - 1)) (fun _ i => (intOf i + 1).toNat)
        case atStart => exact ⟨k, Nat.le_refl _, by rw [List.drop_of_length_le (by rw [HLL.out]; omega)]; rfl, rfl⟩
        case round =>
          obtain ⟨j, hj, rfl, rfl⟩ := hrel
          rcases Nat.eq_zero_or_pos j with h0 | h0
          · subst h0
            rw [show (((0 : Nat) : Int) - 1) = -1 from rfl, List.drop_zero]
            have hvl : val L < 2305843009213693952 := HE.out
            have HV2 := Lib.hid (HLV.out)
            generalize hvx : val L = x at hvl HV2 ⊢
            clear hvx
            have hwr : IntKind.i64.wrap (-(x : Int)) = -(x : Int) := IntWalk.i64_in _ (by omega)
            obtain ⟨⟨p1, p2, p3, p4, p5, p6⟩, p7, p8, p9, p10⟩ := HX.out.2.1
            have HP10 := Lib.hid p10
            clear p10
            cases neg
            · go_wp2_with fail
              exact bodyPost_ret (v := .agg #[.int .i64 (x : Int), .bool false, .slice none 0 0]) (by simp [results, Tryz.results135, go_sem, *]) rfl (retI_box (by rw [← HV2.out]; exact RI.small _ (by rw [Edge_eq]; omega) _ _ (Nat.zero_le _)) HP10.out HX.out.1 (Nat.le_refl _))
            · go_wp2_with fail
              exact bodyPost_ret (v := .agg #[.int .i64 (-(x : Int)), .bool false, .slice none 0 0]) (by simp [results, Tryz.results135, go_sem, *]) rfl (retI_box (by rw [← HV2.out]; exact RI.small _ (by rw [Edge_eq]; omega) _ _ (Nat.zero_le _)) HP10.out HX.out.1 (Nat.le_refl _))
          · obtain ⟨m, rfl⟩ : ∃ m, j = m + 1 := ⟨j - 1, by omega⟩
            have ej : (((m + 1 : Nat) : Int) - 1) = (m : Int) := by omega
            rw [ej]
            clear ej h0
            obtain ⟨b, off, rfl, -, hcells⟩ := HLC.out (by rw [HLL.out]; omega)
            have hc1 := hcells m (by rw [HLL.out]; omega)
            clear hcells
            have hstep : Hid (val (L.drop m) = L.getD m 0 + Bs * val (L.drop (m + 1))) := val_drop (by rw [HLL.out]; omega)
            have hle : val (L.drop m) < 2305843009213693952 := Nat.lt_of_le_of_lt (val_drop_le L m) HE.out
            rw [hstep.out, Bs_eq] at hle
            obtain ⟨x, hx⟩ : ∃ x, L.getD m 0 = x := ⟨_, rfl⟩
            obtain ⟨y, hy⟩ : ∃ y, val (L.drop (m + 1)) = y := ⟨_, rfl⟩
            rw [hx] at hc1
            rw [hx, hy] at hle
            rw [hy]
            have HX1 := Lib.hid hx
            have HY1 := Lib.hid hy
            clear hx hy
            go_wp2_with fail
            exact ⟨⟨m, by omega, int_eq (by rw [hstep.out, HX1.out, HY1.out, Bs_eq]; omega), rfl⟩, by simp [intOf]⟩

end Go.Proofs.YtabaknkjcoibpaaGreatDoor

namespace Go.Proofs.YtabaknkjcoibpaaGreatDoor
open Go.RowKit

/-- What has been taken off after k digits. -/
def LstR (B : Nat) (w : World) (z : Nat) (o m : Value) (wr : World) : Prop :=
  ∃ (r : Nat) (l : List Nat), m = .int .i64 (r : Int) ∧ Own wr B o l ∧ Dl l ∧ (r = 0 → Nz l) ∧ l.length ≤ 3 ∧ val l + Bs ^ l.length * r = z ∧ Below B w wr
theorem LstR.next {B : Nat} {w w' : World} {z r : Nat} {l : List Nat} {o m : Value} {M : Int} (hz : z < Bs ^ 3) (hd : Dl l) (hr : 0 < r) (hv : val l + Bs ^ l.length * r = z) (hbel : Below B w w') (hown : Own w' B o (l ++ [r % Bs])) (hm : m = .int .i64 M) (hM : M = ((r / Bs : Nat) : Int)) : LstR B w z o m w' := by
  subst hm hM
  have h1 : l.length < 3 := by
    rcases Nat.lt_or_ge l.length 3 with h | h
    · exact h
    · have h2 : Bs ^ 3 ≤ Bs ^ l.length := Nat.pow_le_pow_right Bs_pos h
      have h3 : Bs ^ l.length * 1 ≤ Bs ^ l.length * r := Nat.mul_le_mul_left _ hr
      omega
  have h3 := Nat.div_add_mod r Bs
  refine ⟨r / Bs, _, rfl, hown, hd.snoc (Nat.mod_lt _ Bs_pos), fun h => Or.inr ?_, by simp; omega, ?_, hbel⟩
  · rw [List.length_append, List.length_singleton, Nat.add_sub_cancel, getD_snoc_new]
    rw [h, Nat.mul_zero] at h3
    omega
  · rw [val_snoc, List.length_append, List.length_singleton, Nat.pow_succ, Nat.mul_assoc, Nat.add_assoc, ← Nat.mul_add, Nat.add_comm (_ % _), h3]
    exact hv
theorem Edge_lt : Edge < Bs ^ 3 := by rw [Edge_eq, Bs_eq]; decide

set_option maxRecDepth 100000 in
set_option maxHeartbeats 2000000 in
theorem rlist_any (s : Int) (neg : Bool) (A : Option Addr) (n c : Nat) (z : Int) (w : World) (h : RI w s neg A n c z) (hn : n ≤ 1000000) :
    Calls Tryz.prog 134 #[.agg #[.int .i64 s, .bool neg, .slice A n c]] w (RetL (fun l => Nz l ∧ val l = z.natAbs) w) := by
  obtain ⟨l0, h1, h2, h3, h4, ⟨rfl, rfl, rfl, h5⟩ | ⟨h5, rfl, h6, h7, h8, h9⟩⟩ := h
  · have hs1 : -2305843009213693952 < s := by rw [Edge_eq] at h5; omega
    have hs2 : s < 2305843009213693952 := by rw [Edge_eq] at h5; omega
    have hmax : max s (-s) = ((s.natAbs : Nat) : Int) := by omega
    have hzz : s.natAbs < Bs ^ 3 := Nat.lt_trans h5 Edge_lt
    have HZZ := Lib.hid hzz
    have hzb : s.natAbs < 2305843009213693952 := h5
    obtain ⟨x, hx⟩ : ∃ x, s.natAbs = x := ⟨_, rfl⟩
    rw [hx] at hmax HZZ hzb
    have HX := Lib.hid hx
    clear h1 h2 h3 h4 h5 hzz hx
    rw [HX.out]
    have HB := Lib.hid (below_alloc w (.cells #[.int .i64 s, .bool false, .slice A 0 c] 84))
    go_enter Tryz.func134, Tryz.ntmps134
    go_wp2_with fail
    go_loopw [3, 4] (fun o m wr => LstR w.heap.size w x o m wr) (fun _ m _ => (intOf m).toNat)
    case atStart => exact ⟨x, [], rfl, Own.nil _ _, Dl.nil, fun _ => Or.inl rfl, by simp, by simp [val], HB.out⟩
    case round =>
      obtain ⟨r, l, rfl, hown, hd, hnz, hl, hv, hbel⟩ := hrel
      have hrx : r ≤ x := by
        have : 1 * r ≤ Bs ^ l.length * r := Nat.mul_le_mul_right _ (Bs_pow_pos _)
        omega
      have hll : l.length ≤ 1000000 := by omega
      have hsz := hbel.size
      have HBL := Lib.hid hbel
      have HV := Lib.hid hv
      have HD := Lib.hid hd
      have HNZ := Lib.hid hnz
      clear hbel hv hd hnz hmax
      rcases Nat.eq_zero_or_pos r with h0 | h0
      · subst h0
        go_wp2_with fail
        go_ret
        exact ⟨_, l, rfl, hown.ls HD.out, ⟨HNZ.out (by trivial), by have := HV.out; rw [Nat.mul_zero] at this; omega⟩, HBL.out⟩
      · go_wp2_with (at_builtin; refine wpList_push rfl _ _ rfl w.heap.size _ l rfl (hown.alloc _) wr.heap.size rfl _ (cell_new _ _ _) (r % Bs) (by rw [Bs_eq]; omega) hll (by simp; omega) (fun v' w' hown' hkeep => ?_))
        have HO := Lib.hid hown'
        have HKp := Lib.hid (hkeep w (HBL.out.alloc hsz _))
        clear hown' hkeep
        go_wp2_with fail
        go_roundw
        case rel => exact LstR.next HZZ.out HD.out h0 HV.out HKp.out HO.out rfl (by rw [Bs_eq]; omega)
        case measure => simp [intOf]; omega
  · have HR : Hid (∀ wx, Below w.heap.size w wx → RetL (fun l => Nz l ∧ val l = z.natAbs) w (.returned (.slice A n c)) wx) := fun wx hb => ⟨_, l0, rfl, ⟨A, c, by rw [h1], by rw [h1]; exact h2, h3, h4.keep hb⟩, ⟨h7, h8⟩, hb⟩
    clear h1 h2 h3 h4 h6 h7 h8 h9
    go_enter Tryz.func134, Tryz.ntmps134
    go_wp2_with fail
    go_ret
    exact HR.out _ (below_alloc w _)

end Go.Proofs.YtabaknkjcoibpaaGreatDoor
