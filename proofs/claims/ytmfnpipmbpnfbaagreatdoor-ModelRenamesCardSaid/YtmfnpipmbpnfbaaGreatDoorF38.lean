/- A model and a list of whole numbers as arguments, opened. -/
import Derived.Test.YtmfnpipmbpnfbaaGreatDoorF37
import Derived.Deep.Slices
import Derived.Deep.Strs

set_option maxRecDepth 100000
set_option maxHeartbeats 40000000
namespace Go.Proofs.YtmfnpipmbpnfbaaGreatDoor
open Go.ChangeShapes Go.WideShapes Go.ChangeAt Go.RowKit Go.Joins Go.Deep
def intOf1 (v : Value) : Int := match v with | .int _ z => z | _ => 0
section
variable {H : Type} {enc : TypeId × Value → H} {P : Program} {W : World} {base : Nat} {spare : Nat → Bool} {held : Bool}
theorem trod_one {t : TypeId} {f0 : Field} {fuel : Nat} {cs : List Value} {x : DataW H × List MemPlace} (ht : P.underlying t = some (.struct #[f0])) (h : DataW.trod enc P W base spare held fuel t cs = some x) :
    ∃ y0 n, DataW.trod enc P W base spare held n f0.type ((cs.drop f0.offset).take (P.cellsOf f0.type)) = some y0 := by
  obtain ⟨xs, n, -, -, -, hlen, hf⟩ := DataW.trod_struct ht h
  match xs, hlen with
  | [y0], _ => exact ⟨y0, n, by simpa using hf 0 f0 rfl⟩
theorem open_rows3 {t e : TypeId} {fuel : Nat} {v : Value} {x : DataW H × List MemPlace} (ht : P.underlying t = some (.slice e)) (ce : P.cellsOf e = 3) (h : DataW.trod enc P W base spare held fuel t [v] = some x) :
    ∃ (A : Option Addr) (n c N : Nat) (p q r : Nat → Value), v = .slice A n c ∧ n ≤ 9223372036854775807 ∧ Rows3 W A n p q r ∧ ∀ i, i < n → ∃ y, DataW.trod enc P W base spare held N e [p i, q i, r i] = some y := by
  rcases open_slice ht h with ⟨e0, -⟩ | ⟨a, len, cap, m, k, D, Pl, e0, hb, hl, hm, hmm, -, hx⟩
  · obtain rfl := (List.cons.inj e0).1
    exact ⟨none, 0, 0, 0, fun _ => .int .i64 0, fun _ => .int .i64 0, fun _ => .int .i64 0, rfl, by omega, fun h => absurd h (by omega), fun i hi => absurd hi (by omega)⟩
  · obtain rfl := (List.cons.inj e0).1
    have hnm : len ≤ m := by rw [hmm]; split <;> omega
    rw [ce] at hx
    have key : ∀ i, i < len → ∃ z : Value × Value × Value, W.cell? (a.add (i * 3)) = some z.1 ∧ W.cell? ((a.add (i * 3)).add 1) = some z.2.1 ∧ W.cell? ((a.add (i * 3)).add 2) = some z.2.2 ∧ ∃ y, DataW.trod enc P W base spare held k e [z.1, z.2.1, z.2.2] = some y := fun i hi => by
      obtain ⟨cs', h1, h2⟩ := hx i (by omega)
      obtain ⟨_, hlen, hc⟩ := World.cells?_some h1
      match cs', hlen with
      | [v0, v1, v2], _ => exact ⟨(v0, v1, v2), (hc 0 (by omega)), hc 1 (by omega), hc 2 (by omega), _, h2⟩
    obtain ⟨f, hf⟩ := choose_lt (α := Value × Value × Value) key
    refine ⟨some a, len, cap, k, fun i => (f i).1, fun i => (f i).2.1, fun i => (f i).2.2, rfl, by unfold maxLen at hm; omega, fun h0 => ?_, fun i hi => (hf i hi).2.2.2⟩
    have hsp : a.spot = none := by
      have h1 := (hf 0 h0).1
      rw [Nat.zero_mul] at h1
      exact World.cell?_spot (a := a) (by simpa [Addr.add] using h1)
    obtain ⟨b, off, sp⟩ := a
    simp only at hsp
    subst hsp
    refine ⟨b, off, rfl, ?_, fun i hi => ?_⟩
    · have h1 := (hf 0 h0).1
      unfold World.cell? at h1
      cases hh : W.heap[b]? with
      | none => simp [hh, Addr.add] at h1
      | some o => exact (Array.getElem?_eq_some_iff.1 hh).1
    · obtain ⟨h1, h2, h3, -⟩ := hf i hi
      rw [add_plain] at h1 h2 h3
      rw [add_plain] at h2 h3
      exact ⟨h1, h2, h3⟩
end
section
variable {H : Type} {enc : TypeId × Value → H} {W : World} {base : Nat} {spare : Nat → Bool} {held : Bool}
theorem trod_int_ {k : Nat} {v : Value} {y : DataW H × List MemPlace} (h : DataW.trod enc Tryz.prog W base spare held k 3 [v] = some y) : v = .int .i64 (intOf1 v) := by
  obtain ⟨z, e, -, -⟩ := DataW.trod_int Tryz.underlying3 h
  obtain rfl := (List.cons.inj e).1
  rfl
theorem trod_num_ {k : Nat} {u v : Value} {y : DataW H × List MemPlace} (h : DataW.trod enc Tryz.prog W base spare held k 62 [u, v] = some y) : u = .int .i64 (intOf1 u) ∧ v = .int .i64 (intOf1 v) := by
  obtain ⟨y0, y1, n, -, -, h0, h1⟩ := trod_struct2 Tryz.underlying62 h
  rw [show Tryz.prog.cellsOf 3 = 1 by kernel_rfl] at h0 h1
  exact ⟨trod_int_ h0, trod_int_ h1⟩
theorem trod_branch_ {k : Nat} {u v x : Value} {y : DataW H × List MemPlace} (h : DataW.trod enc Tryz.prog W base spare held k 74 [u, v, x] = some y) : u = .int .i64 (intOf1 u) ∧ v = .int .i64 (intOf1 v) ∧ x = .int .i64 (intOf1 x) := by
  obtain ⟨y0, y1, n, -, -, h0, h1⟩ := trod_struct2 Tryz.underlying74 h
  rw [show Tryz.prog.cellsOf 3 = 1 by kernel_rfl] at h0
  rw [show Tryz.prog.cellsOf 62 = 2 by kernel_rfl] at h1
  exact ⟨trod_int_ h0, trod_num_ h1⟩
theorem trod_choice_ {k : Nat} {u v x : Value} {y : DataW H × List MemPlace} (h : DataW.trod enc Tryz.prog W base spare held k 65 [u, v, x] = some y) : u = .int .i64 (intOf1 u) ∧ v = .int .i64 (intOf1 v) ∧ ∃ n y, DataW.trod enc Tryz.prog W base spare held n 63 [x] = some y := by
  obtain ⟨y0, y1, n, -, -, h0, h1⟩ := trod_struct2 Tryz.underlying65 h
  rw [show Tryz.prog.cellsOf 62 = 2 by kernel_rfl] at h0
  rw [show Tryz.prog.cellsOf 63 = 1 by kernel_rfl] at h1
  exact ⟨(trod_num_ h0).1, (trod_num_ h0).2, n, y1, h1⟩
theorem trod_state_ {k : Nat} {u v x : Value} {y : DataW H × List MemPlace} (h : DataW.trod enc Tryz.prog W base spare held k 53 [u, v, x] = some y) : u = .int .i64 (intOf1 u) ∧ v = .int .i64 (intOf1 v) ∧ ∃ n y, DataW.trod enc Tryz.prog W base spare held n 51 [x] = some y := by
  obtain ⟨y0, y1, y2, n, -, -, h0, h1, h2⟩ := trod_struct3 Tryz.underlying53 h
  rw [show Tryz.prog.cellsOf 3 = 1 by kernel_rfl] at h0 h1
  rw [show Tryz.prog.cellsOf 51 = 1 by kernel_rfl] at h2
  exact ⟨trod_int_ h0, trod_int_ h1, n, y2, h2⟩
theorem open_br {k : Nat} {v : Value} {x : DataW H × List MemPlace} (h : DataW.trod enc Tryz.prog W base spare held k 63 [v] = some x) :
    ∃ (A : Option Addr) (n c : Nat) (tw ct cl : Nat → Int), v = .slice A n c ∧ n ≤ 9223372036854775807 ∧ Lbr W A n tw ct cl := by
  obtain ⟨A, n, c, N, p, q, r, rfl, hn, hr, hy⟩ := open_rows3 Tryz.underlying63 (by kernel_rfl) h
  refine ⟨A, n, c, fun i => intOf1 (p i), fun i => intOf1 (q i), fun i => intOf1 (r i), rfl, hn, fun h0 => ?_⟩
  obtain ⟨b, off, hA, hb, hc⟩ := hr h0
  refine ⟨b, off, hA, hb, fun i hi => ?_⟩
  obtain ⟨y, hy⟩ := hy i hi
  obtain ⟨e0, e1, e2⟩ := trod_branch_ hy
  obtain ⟨c0, c1, c2⟩ := hc i hi
  exact ⟨c0.trans (congrArg some e0), c1.trans (congrArg some e1), c2.trans (congrArg some e2)⟩
instance : Inhabited ChV := ⟨⟨0, 0, none, 0, 0, fun _ => 0, fun _ => 0, fun _ => 0⟩⟩
instance : Inhabited StV := ⟨⟨0, 0, none, 0, 0, fun _ => default⟩⟩
theorem open_ch {k : Nat} {v : Value} {x : DataW H × List MemPlace} (h : DataW.trod enc Tryz.prog W base spare held k 51 [v] = some x) :
    ∃ (A : Option Addr) (n c : Nat) (ch : Nat → ChV), v = .slice A n c ∧ n ≤ 9223372036854775807 ∧ Lch W A n ch ∧ ∀ j, j < n → (ch j).n ≤ 9223372036854775807 := by
  obtain ⟨A, n, c, N, p, q, r, rfl, hn, hr, hy⟩ := open_rows3 Tryz.underlying51 (by kernel_rfl) h
  have key : ∀ i, i < n → ∃ g : ChV, p i = .int .i64 g.t ∧ q i = .int .i64 g.l ∧ r i = .slice g.A g.n g.c ∧ g.n ≤ 9223372036854775807 ∧ Lbr W g.A g.n g.tw g.ct g.cl := fun i hi => by
    obtain ⟨y, hy⟩ := hy i hi
    obtain ⟨e0, e1, m, z, hz⟩ := trod_choice_ hy
    obtain ⟨B, d, e, tw, ct, cl, e2, hd, hL⟩ := open_br hz
    exact ⟨⟨intOf1 (p i), intOf1 (q i), B, d, e, tw, ct, cl⟩, e0, e1, e2, hd, hL⟩
  obtain ⟨g, hg⟩ := choose_lt key
  refine ⟨A, n, c, g, rfl, hn, ⟨fun h0 => ?_, fun i hi => (hg i hi).2.2.2.2⟩, fun i hi => (hg i hi).2.2.2.1⟩
  obtain ⟨b, off, hA, hb, hc⟩ := hr h0
  refine ⟨b, off, hA, hb, fun i hi => ?_⟩
  obtain ⟨e0, e1, e2, -⟩ := hg i hi
  obtain ⟨c0, c1, c2⟩ := hc i hi
  exact ⟨c0.trans (congrArg some e0), c1.trans (congrArg some e1), c2.trans (congrArg some e2)⟩
theorem open_st {k : Nat} {v : Value} {x : DataW H × List MemPlace} (h : DataW.trod enc Tryz.prog W base spare held k 22 [v] = some x) :
    ∃ (A : Option Addr) (n c : Nat) (st : Nat → StV), v = .slice A n c ∧ n ≤ 9223372036854775807 ∧ Lst W A n st ∧ FitsM n st := by
  obtain ⟨A, n, c, N, p, q, r, rfl, hn, hr, hy⟩ := open_rows3 Tryz.underlying22 (by kernel_rfl) h
  have key : ∀ i, i < n → ∃ g : StV, p i = .int .i64 g.ow ∧ q i = .int .i64 g.mrk ∧ r i = .slice g.A g.n g.c ∧ g.n ≤ 9223372036854775807 ∧ Lch W g.A g.n g.ch ∧ ∀ j, j < g.n → (g.ch j).n ≤ 9223372036854775807 := fun i hi => by
    obtain ⟨y, hy⟩ := hy i hi
    obtain ⟨e0, e1, m, z, hz⟩ := trod_state_ hy
    obtain ⟨B, d, e, ch, e2, hd, hL, hq⟩ := open_ch hz
    exact ⟨⟨intOf1 (p i), intOf1 (q i), B, d, e, ch⟩, e0, e1, e2, hd, hL, hq⟩
  obtain ⟨g, hg⟩ := choose_lt key
  refine ⟨A, n, c, g, rfl, hn, ⟨fun h0 => ?_, fun i hi => (hg i hi).2.2.2.2.1⟩, fun i hi => (hg i hi).2.2.2.1, fun i j hi hj => (hg i hi).2.2.2.2.2 j hj⟩
  obtain ⟨b, off, hA, hb, hc⟩ := hr h0
  refine ⟨b, off, hA, hb, fun i hi => ?_⟩
  obtain ⟨e0, e1, e2, -⟩ := hg i hi
  obtain ⟨c0, c1, c2⟩ := hc i hi
  exact ⟨c0.trans (congrArg some e0), c1.trans (congrArg some e1), c2.trans (congrArg some e2)⟩
theorem open_model {b0 : Nat} {v : Value} {d : DataW H} {p : List MemPlace} {r : Reach} (hv : Value.okWide Tryz.prog W r b0 24 v) (h : DataW.Trod enc Tryz.prog W base spare held 24 v d p) :
    ∃ A n c st, v = .agg #[.slice A n c] ∧ Lst W A n st ∧ FitsM n st := by
  obtain ⟨cs, rfl, hcs⟩ := okWide_struct Tryz.underlying24 hv
  rw [show Tryz.prog.cellsOf 24 = 1 by kernel_rfl] at hcs
  obtain ⟨fuel, h⟩ := h
  obtain ⟨y, n, h0⟩ := trod_one Tryz.underlying24 h
  rw [show Tryz.prog.cellsOf 22 = 1 by kernel_rfl] at h0
  obtain ⟨l⟩ := cs
  match l, hcs with
  | [x], _ =>
    obtain ⟨A, n, c, st, e, hn, hL, hF⟩ := open_st (v := x) (x := y) h0
    exact ⟨A, n, c, st, by rw [e], hL, hF⟩
theorem open_ints1 {b0 : Nat} {v : Value} {d : DataW H} {p : List MemPlace} {r : Reach} (hv : Value.okWide Tryz.prog W r b0 25 v) (h : DataW.Trod enc Tryz.prog W base spare held 25 v d p) :
    ∃ A n c f, v = .slice A n c ∧ Lin W A n f := by
  obtain ⟨A, n, c, rfl⟩ := okWide_slice Tryz.underlying25 hv
  obtain ⟨fuel, h⟩ := h
  rcases open_slice1 Tryz.underlying25 (by kernel_rfl) h with ⟨e, -⟩ | ⟨a, len, cap, m, k, V, D, Pl, e, hb, hl, hm, hmm, -, hc⟩
  · simp [Value.cells] at e
    obtain ⟨rfl, rfl, rfl⟩ := e
    exact ⟨none, 0, 0, fun _ => 0, rfl, fun h => absurd h (by omega)⟩
  · simp [Value.cells] at e
    obtain ⟨rfl, rfl, rfl⟩ := e
    have hnm : n ≤ m := by rw [hmm]; split <;> omega
    refine ⟨some a, n, c, fun i => intOf1 (V i), rfl, fun h0 => ?_⟩
    have h1 := (hc 0 (by omega)).1
    have hsp : a.spot = none := World.cell?_spot (a := a) (by simpa [Addr.add] using h1)
    obtain ⟨b, off, sp⟩ := a
    simp only at hsp
    subst hsp
    refine ⟨b, off, rfl, ?_, fun i hi => ?_⟩
    · unfold World.cell? at h1
      cases hh : W.heap[b]? with
      | none => simp [hh, Addr.add] at h1
      | some o => exact (Array.getElem?_eq_some_iff.1 hh).1
    · obtain ⟨h1, h2⟩ := hc i (by omega)
      rw [add_plain] at h1
      exact h1.trans (congrArg some (trod_int_ h2))
end
end Go.Proofs.YtmfnpipmbpnfbaaGreatDoor
