/- Models that are small enough, by the reference: what follows for their sizes. The step from a law's contract to its row: the call leaves a world of which it is known that nothing below has changed. Arguments that are only read: behind a call that leaves what was there before as it was, they read as before, whatever their types. A model and a list of whole numbers as arguments, opened. -/
import Derived.Test.YtabaknkjcoibpaaGreatDoorM48
import Derived.Test.YtabaknkjcoibpaaGreatDoorM45
import Derived.Test.YtabaknkjcoibpaaGreatDoorRows
import Derived.WalkKit
import Derived.ProofKit
import Derived.OpenShut
import Derived.Below
import Derived.ChangeSame
import Derived.Lib.SmallJoins
import Derived.Carry
import Derived.ChangeOld
import Derived.Deep.Slices
import Derived.Deep.Strs

namespace Go.Proofs.YtabaknkjcoibpaaGreatDoor
open Go.RowKit

/-- Inner lists are no longer than a list can be. -/
def FitsM (n : Nat) (st : Nat → StV) : Prop := (∀ i, i < n → (st i).n ≤ 9223372036854775807) ∧ ∀ i j, i < n → j < (st i).n → ((st i).ch j).n ≤ 9223372036854775807

theorem few_cv {A : Option Addr} {n c : Nat} {st : Nat → StV} {w : World} (hf : FitsM n st) (hA : Lst w A n st) : CV 43 #[.int .i64 40, .agg #[.slice A n c]] (.bool (fewB n st)) w :=
  fun wx hb => few_any A n c st wx (hA.keep hb) hf.1 hf.2

theorem few_szs {n : Nat} {st : Nat → StV} (h : fewB n st = true) : Szs n st := by
  simp only [fewB, Bool.and_eq_true, Bool.not_eq_true', decide_eq_false_iff_not] at h
  refine ⟨by omega, fun i hi => ?_, fun i j hi hj => ?_⟩
  · have h2 := allB_get h.2 hi
    simp only [fewS, Bool.and_eq_true, Bool.not_eq_true', decide_eq_false_iff_not] at h2
    omega
  · have h2 := allB_get h.2 hi
    simp only [fewS, Bool.and_eq_true] at h2
    have h3 := allB_get h2.2 hj
    simp only [fewC, Bool.not_eq_true', decide_eq_false_iff_not] at h3
    omega

end Go.Proofs.YtabaknkjcoibpaaGreatDoor

namespace Go.Proofs.YtabaknkjcoibpaaGreatDoor
open Go.ChangeShapes Go.WideShapes Go.ChangeAt Go.RowKit Go.Joins

theorem Tryz.own : ownKnob Tryz.prog.godebug = none := by kernel_rfl
theorem Tryz.cells62 : Tryz.prog.cellsOf 62 = 2 := by kernel_rfl

section
variable {H : Type} {enc : TypeId × Value → H} {P : Program}
theorem post_of_below {f : Func} {s : ChangeSpec} {apart fresh handsOn again : Bool} {W W' : World} {args : Array Value} {v : Value} {ds gs : List (DataW H)} {before pa pv : List MemPlace}
    (hW : DataW.Whole enc P f.params.toList s.vars apart W args.toList ds gs before)
    (hres : ∀ (b : Nat) (sp : Nat → Bool) (hd : Bool), DataW.TrodAll enc P W' b sp hd f.resultTypes.toList (v.resultList f.resultTypes.size) (s.fn H (ds ++ gs)).results [])
    (hargs : ∀ sp : Nat → Bool, (∀ p ∈ before, sp p.block = true) → DataW.TrodAll enc P W' 0 sp true f.params.toList args.toList (s.fn H (ds ++ gs)).args pa)
    (hvars : ∀ sp : Nat → Bool, (∀ p ∈ before, sp p.block = true) → DataW.TrodVars enc P W' sp s.vars (s.fn H (ds ++ gs)).vars pv)
    (hps : before = pa ++ pv) (hb : Below W.heap.size W W')
    (hok : ∀ (j : Nat) (t : TypeId) (r : Value), f.resultTypes[j]? = some t → (v.resultList f.resultTypes.size)[j]? = some r → Value.okWide P W' .any 0 t r) :
    s.post enc P f apart fresh handsOn again W args v W' := by
  have hlt : ∀ p ∈ before, p.block < W.heap.size := fun p hp => hW.lt p hp
  have hold : ∀ p ∈ before, (fun b => decide (b < W.heap.size)) p.block = true := fun p hp => by simpa using hlt p hp
  refine ⟨ds, gs, before, [], pa, pv, hW, hres _ _ _, hargs _ hold, hvars _ hold, World.keptBut_mono (fun p hp => ⟨hp, ?_⟩) (hb.frame (· ∈ before)), fun _ => ?_⟩
  · rw [hps, List.mem_append] at hp
    exact Or.inr hp
  · obtain ⟨_, _, _, _, _, hz, hn⟩ := hW
    refine ⟨hok, _, _, ([] ++ pa) ++ pv, ⟨[] ++ pa, pv, trodAll_append (hargs _ (fun _ _ => rfl)) (hres _ _ _), hvars _ (fun _ _ => rfl), rfl, ?_, ?_⟩, ?_⟩
    · intro b off hp
      have hin : MemPlace.cell b off ∈ before := by rw [hps]; simpa using hp
      rw [hb.frozen (hlt _ hin)]
      exact hz b off hin
    · intro ha
      have := hn ha
      rw [hps] at this
      simpa using this
    · intro p hp _
      rw [hps]
      simpa using hp
end

set_option maxRecDepth 100000 in
/-- A number as an argument: opened. -/
theorem open_num {H : Type} {enc : TypeId × Value → H} {W : World} {base b0 : Nat} {spare : Nat → Bool} {held : Bool} {v : Value} {d : DataW H} {p : List MemPlace} {r : Reach} (hv : Value.okWide Tryz.prog W r b0 62 v) (h : DataW.Trod enc Tryz.prog W base spare held 62 v d p) :
    ∃ a b : Int, v = .agg #[.int .i64 a, .int .i64 b] ∧ d = .agg [.lit (.int .i64 a), .lit (.int .i64 b)] ∧ p = [] ∧ (Lit.int .i64 a).wf = true ∧ (Lit.int .i64 b).wf = true := by
  obtain ⟨c0, c1, y0, y1, m, rfl, rfl, rfl, hy0, hy1⟩ := open_agg2 Tryz.underlying62 (by kernel_rfl) Tryz.cells62 hv h
  obtain ⟨a, e0, rfl, wa⟩ := DataW.trod_int Tryz.underlying3 hy0
  obtain ⟨b, e1, rfl, wb⟩ := DataW.trod_int Tryz.underlying3 hy1
  simp at e0 e1
  subst e0 e1
  exact ⟨a, b, rfl, rfl, rfl, wa, wb⟩

set_option maxRecDepth 100000 in
/-- .. and shut. -/
theorem shut_num {H : Type} {enc : TypeId × Value → H} {W : World} {base : Nat} {spare : Nat → Bool} {held : Bool} {a b : Int} (wa : (Lit.int .i64 a).wf = true) (wb : (Lit.int .i64 b).wf = true) :
    DataW.Trod enc Tryz.prog W base spare held 62 (.agg #[.int .i64 a, .int .i64 b]) (.agg [.lit (.int .i64 a), .lit (.int .i64 b)]) [] :=
  shut_agg2 (y0 := (.lit (.int .i64 a), [])) (y1 := (.lit (.int .i64 b), [])) Tryz.underlying62 (by kernel_rfl) Tryz.cells62 ⟨1, by simp [DataW.trod, Tryz.underlying3, wa]⟩ ⟨1, by simp [DataW.trod, Tryz.underlying3, wb]⟩

end Go.Proofs.YtabaknkjcoibpaaGreatDoor

namespace Go.Proofs.YtabaknkjcoibpaaGreatDoor
open Go.ChangeShapes Go.WideShapes Go.ChangeAt Go.RowKit Go.Joins Go.WideElems

section
variable {H : Type} {enc : TypeId × Value → H} {P : Program}
/-- One closed fact: the types can be read and are rows of the table. -/
def paramsRowed (P : Program) (ts : List TypeId) : Bool := ts.all fun t => P.readableRec t && decide (t < P.types.size)

theorem trodAll_stays (hl : laidOutB P = true) {W W' : World} (hb : Below W.heap.size W W') {sp : Nat → Bool} :
    ∀ {ts : List TypeId} {vs : List Value} {ds : List (DataW H)} {ps : List MemPlace}, paramsRowed P ts = true → DataW.TrodAll enc P W 0 (fun _ => true) true ts vs ds ps → (∀ p ∈ ps, p.block < W.heap.size) → (∀ p ∈ ps, sp p.block = true) →
      DataW.TrodAll enc P W' 0 sp true ts vs ds ps
  | [], [], [], _, _, h, _, _ => h
  | [], [], _ :: _, _, _, h, _, _ => h.elim
  | [], _ :: _, _, _, _, h, _, _ => h.elim
  | _ :: _, [], _, _, _, h, _, _ => h.elim
  | _ :: _, _ :: _, [], _, _, h, _, _ => h.elim
  | t :: ts, v :: vs, d :: ds, ps, hr, h, hlt, hs => by
    obtain ⟨p, q, ⟨fuel, h1⟩, h2, rfl⟩ := h
    simp only [paramsRowed, List.all_cons, Bool.and_eq_true, decide_eq_true_eq] at hr
    refine ⟨p, q, ⟨fuel, ?_⟩, trodAll_stays hl hb (by simpa [paramsRowed] using hr.2) h2 (fun x hx => hlt x (by simp [hx])) (fun x hx => hs x (by simp [hx])), rfl⟩
    exact DataW.trod_stays (kids_book hl hr.1.1) (book_sized hr.1.1) (fun h => by cases h) ⟨hr.1.2, book_self t⟩ h1 (fun x hx => hb.same (hlt x (by simp [hx]))) (fun x hx => hs x (by simp [hx]))

/-- The step from a law's contract to its row, for arguments of any types that are only read and that the row hands on. -/
theorem post_of_stays {f : Func} {s : ChangeSpec} {apart fresh handsOn again : Bool} {W W' : World} {args : Array Value} {v : Value} {ds : List (DataW H)} {before : List MemPlace}
    (hl : laidOutB P = true) (hrow : paramsRowed P f.params.toList = true) (hv0 : s.vars = [])
    (hW : DataW.Whole enc P f.params.toList s.vars apart W args.toList ds [] before)
    (hres : ∀ (b : Nat) (sp : Nat → Bool) (hd : Bool), DataW.TrodAll enc P W' b sp hd f.resultTypes.toList (v.resultList f.resultTypes.size) (s.fn H (ds ++ [])).results [])
    (hargs : (s.fn H (ds ++ [])).args = ds) (hvars : (s.fn H (ds ++ [])).vars = [])
    (hb : Below W.heap.size W W')
    (hok : ∀ (j : Nat) (t : TypeId) (r : Value), f.resultTypes[j]? = some t → (v.resultList f.resultTypes.size)[j]? = some r → Value.okWide P W' .any 0 t r) :
    s.post enc P f apart fresh handsOn again W args v W' := by
  have hlt : ∀ p ∈ before, p.block < W.heap.size := fun p hp => hW.lt p hp
  have hW' := hW
  obtain ⟨pa, pv, hA, hV, hps, -, -⟩ := hW
  rw [hv0] at hV
  obtain rfl : pv = [] := hV
  rw [List.append_nil] at hps
  subst hps
  refine post_of_below (pa := before) (pv := []) hW' hres (fun sp hsp => ?_) (fun sp _ => ?_) (by simp) hb hok
  · rw [hargs]
    exact trodAll_stays hl hb hrow hA hlt hsp
  · rw [hv0, hvars]
    exact rfl
end

end Go.Proofs.YtabaknkjcoibpaaGreatDoor

namespace Go.Proofs.YtabaknkjcoibpaaGreatDoor
open Go.ChangeShapes Go.WideShapes Go.ChangeAt Go.RowKit Go.Joins Go.Deep

def intOf1 (v : Value) : Int := match v with | .int _ z => z | _ => 0
def slA (v : Value) : Option Addr := match v with | .slice a _ _ => a | _ => none
def slN (v : Value) : Nat := match v with | .slice _ n _ => n | _ => 0
def slC (v : Value) : Nat := match v with | .slice _ _ c => c | _ => 0

section
variable {H : Type} {enc : TypeId × Value → H} {P : Program} {W : World} {base : Nat} {spare : Nat → Bool} {held : Bool}

theorem trod_one {t : TypeId} {f0 : Field} {fuel : Nat} {cs : List Value} {x : DataW H × List MemPlace} (ht : P.underlying t = some (.struct #[f0])) (h : DataW.trod enc P W base spare held fuel t cs = some x) :
    ∃ y0 n, DataW.trod enc P W base spare held n f0.type ((cs.drop f0.offset).take (P.cellsOf f0.type)) = some y0 := by
  obtain ⟨xs, n, -, -, -, hlen, hf⟩ := DataW.trod_struct ht h
  match xs, hlen with
  | [y0], _ => exact ⟨y0, n, by simpa using hf 0 f0 rfl⟩

/-- A slice whose elements are three cells each. -/
theorem open_rows3 {t e : TypeId} {fuel : Nat} {v : Value} {x : DataW H × List MemPlace} (ht : P.underlying t = some (.slice e)) (ce : P.cellsOf e = 3) (h : DataW.trod enc P W base spare held fuel t [v] = some x) :
    ∃ (A : Option Addr) (n c N : Nat) (p q r : Nat → Value), v = .slice A n c ∧ n ≤ 9223372036854775807 ∧ Rows3 W A n p q r ∧ ∀ i, i < n → ∃ y, DataW.trod enc P W base spare held N e [p i, q i, r i] = some y := by
  rcases open_slice ht h with ⟨e0, -⟩ | ⟨a, len, cap, m, k, D, Pl, e0, hb, hl, hm, hmm, -, hx⟩
  · obtain rfl := (List.cons.inj e0).1
    exact ⟨none, 0, 0, 0, fun _ => .int .i64 0, fun _ => .int .i64 0, fun _ => .int .i64 0, rfl, by omega, fun h => absurd h (by omega), fun i hi => absurd hi (by omega)⟩
  · obtain rfl := (List.cons.inj e0).1
    have hnm : len ≤ m := by rw [hmm]; split <;> omega
    rw [ce] at hx
    have key : ∀ i, i < len → ∃ z : Value × Value × Value, W.cell? (a.add (i * 3)) = some z.1 ∧ W.cell? ((a.add (i * 3)).add 1) = some z.2.1 ∧ W.cell? ((a.add (i * 3)).add 2) = some z.2.2 ∧ ∃ y, DataW.trod enc P W base spare held k e [z.1, z.2.1, z.2.2] = some y := fun i hi => by
      obtain ⟨cs', h1, h2⟩ := hx i (by omega)
      obtain ⟨_, hlen, hc⟩ := World.cells?_some h1
      match cs', hlen with
      | [v0, v1, v2], _ => exact ⟨(v0, v1, v2), (hc 0 (by omega)), hc 1 (by omega), hc 2 (by omega), _, h2⟩
    obtain ⟨f, hf⟩ := choose_lt (α := Value × Value × Value) key
    refine ⟨some a, len, cap, k, fun i => (f i).1, fun i => (f i).2.1, fun i => (f i).2.2, rfl, by unfold maxLen at hm; omega, fun h0 => ?_, fun i hi => (hf i hi).2.2.2⟩
    have hsp : a.spot = none := by
      have h1 := (hf 0 h0).1
      rw [Nat.zero_mul] at h1
      exact World.cell?_spot (a := a) (by simpa [Addr.add] using h1)
    obtain ⟨b, off, sp⟩ := a
    simp only at hsp
    subst hsp
    refine ⟨b, off, rfl, ?_, fun i hi => ?_⟩
    · have h1 := (hf 0 h0).1
      unfold World.cell? at h1
      cases hh : W.heap[b]? with
      | none => simp [hh, Addr.add] at h1
      | some o => exact (Array.getElem?_eq_some_iff.1 hh).1
    · obtain ⟨h1, h2, h3, -⟩ := hf i hi
      rw [add_plain] at h1 h2 h3
      rw [add_plain] at h2 h3
      exact ⟨h1, h2, h3⟩
end

section
variable {H : Type} {enc : TypeId × Value → H} {W : World} {base : Nat} {spare : Nat → Bool} {held : Bool}

theorem trod_int_ {k : Nat} {v : Value} {y : DataW H × List MemPlace} (h : DataW.trod enc Tryz.prog W base spare held k 3 [v] = some y) : v = .int .i64 (intOf1 v) := by
  obtain ⟨z, e, -, -⟩ := DataW.trod_int Tryz.underlying3 h
  obtain rfl := (List.cons.inj e).1
  rfl
theorem trod_num_ {k : Nat} {u v : Value} {y : DataW H × List MemPlace} (h : DataW.trod enc Tryz.prog W base spare held k 62 [u, v] = some y) : u = .int .i64 (intOf1 u) ∧ v = .int .i64 (intOf1 v) := by
  obtain ⟨y0, y1, n, -, -, h0, h1⟩ := trod_struct2 Tryz.underlying62 h
  rw [show Tryz.prog.cellsOf 3 = 1 by kernel_rfl] at h0 h1
  exact ⟨trod_int_ h0, trod_int_ h1⟩
theorem trod_branch_ {k : Nat} {u v x : Value} {y : DataW H × List MemPlace} (h : DataW.trod enc Tryz.prog W base spare held k 74 [u, v, x] = some y) : u = .int .i64 (intOf1 u) ∧ v = .int .i64 (intOf1 v) ∧ x = .int .i64 (intOf1 x) := by
  obtain ⟨y0, y1, n, -, -, h0, h1⟩ := trod_struct2 Tryz.underlying74 h
  rw [show Tryz.prog.cellsOf 3 = 1 by kernel_rfl] at h0
  rw [show Tryz.prog.cellsOf 62 = 2 by kernel_rfl] at h1
  exact ⟨trod_int_ h0, trod_num_ h1⟩
theorem trod_choice_ {k : Nat} {u v x : Value} {y : DataW H × List MemPlace} (h : DataW.trod enc Tryz.prog W base spare held k 65 [u, v, x] = some y) : u = .int .i64 (intOf1 u) ∧ v = .int .i64 (intOf1 v) ∧ ∃ n y, DataW.trod enc Tryz.prog W base spare held n 63 [x] = some y := by
  obtain ⟨y0, y1, n, -, -, h0, h1⟩ := trod_struct2 Tryz.underlying65 h
  rw [show Tryz.prog.cellsOf 62 = 2 by kernel_rfl] at h0
  rw [show Tryz.prog.cellsOf 63 = 1 by kernel_rfl] at h1
  exact ⟨(trod_num_ h0).1, (trod_num_ h0).2, n, y1, h1⟩
theorem trod_state_ {k : Nat} {u v x : Value} {y : DataW H × List MemPlace} (h : DataW.trod enc Tryz.prog W base spare held k 53 [u, v, x] = some y) : u = .int .i64 (intOf1 u) ∧ v = .int .i64 (intOf1 v) ∧ ∃ n y, DataW.trod enc Tryz.prog W base spare held n 51 [x] = some y := by
  obtain ⟨y0, y1, y2, n, -, -, h0, h1, h2⟩ := trod_struct3 Tryz.underlying53 h
  rw [show Tryz.prog.cellsOf 3 = 1 by kernel_rfl] at h0 h1
  rw [show Tryz.prog.cellsOf 51 = 1 by kernel_rfl] at h2
  exact ⟨trod_int_ h0, trod_int_ h1, n, y2, h2⟩

/-- The branches of a choice. -/
theorem open_br {k : Nat} {v : Value} {x : DataW H × List MemPlace} (h : DataW.trod enc Tryz.prog W base spare held k 63 [v] = some x) :
    ∃ (A : Option Addr) (n c : Nat) (tw ct cl : Nat → Int), v = .slice A n c ∧ n ≤ 9223372036854775807 ∧ Lbr W A n tw ct cl := by
  obtain ⟨A, n, c, N, p, q, r, rfl, hn, hr, hy⟩ := open_rows3 Tryz.underlying63 (by kernel_rfl) h
  refine ⟨A, n, c, fun i => intOf1 (p i), fun i => intOf1 (q i), fun i => intOf1 (r i), rfl, hn, fun h0 => ?_⟩
  obtain ⟨b, off, hA, hb, hc⟩ := hr h0
  refine ⟨b, off, hA, hb, fun i hi => ?_⟩
  obtain ⟨y, hy⟩ := hy i hi
  obtain ⟨e0, e1, e2⟩ := trod_branch_ hy
  obtain ⟨c0, c1, c2⟩ := hc i hi
  exact ⟨c0.trans (congrArg some e0), c1.trans (congrArg some e1), c2.trans (congrArg some e2)⟩

instance : Inhabited ChV := ⟨⟨0, 0, none, 0, 0, fun _ => 0, fun _ => 0, fun _ => 0⟩⟩
instance : Inhabited StV := ⟨⟨0, 0, none, 0, 0, fun _ => default⟩⟩

/-- The choices of a state. -/
theorem open_ch {k : Nat} {v : Value} {x : DataW H × List MemPlace} (h : DataW.trod enc Tryz.prog W base spare held k 51 [v] = some x) :
    ∃ (A : Option Addr) (n c : Nat) (ch : Nat → ChV), v = .slice A n c ∧ n ≤ 9223372036854775807 ∧ Lch W A n ch ∧ ∀ j, j < n → (ch j).n ≤ 9223372036854775807 := by
  obtain ⟨A, n, c, N, p, q, r, rfl, hn, hr, hy⟩ := open_rows3 Tryz.underlying51 (by kernel_rfl) h
  have key : ∀ i, i < n → ∃ g : ChV, p i = .int .i64 g.t ∧ q i = .int .i64 g.l ∧ r i = .slice g.A g.n g.c ∧ g.n ≤ 9223372036854775807 ∧ Lbr W g.A g.n g.tw g.ct g.cl := fun i hi => by
    obtain ⟨y, hy⟩ := hy i hi
    obtain ⟨e0, e1, m, z, hz⟩ := trod_choice_ hy
    obtain ⟨B, d, e, tw, ct, cl, e2, hd, hL⟩ := open_br hz
    exact ⟨⟨intOf1 (p i), intOf1 (q i), B, d, e, tw, ct, cl⟩, e0, e1, e2, hd, hL⟩
  obtain ⟨g, hg⟩ := choose_lt key
  refine ⟨A, n, c, g, rfl, hn, ⟨fun h0 => ?_, fun i hi => (hg i hi).2.2.2.2⟩, fun i hi => (hg i hi).2.2.2.1⟩
  obtain ⟨b, off, hA, hb, hc⟩ := hr h0
  refine ⟨b, off, hA, hb, fun i hi => ?_⟩
  obtain ⟨e0, e1, e2, -⟩ := hg i hi
  obtain ⟨c0, c1, c2⟩ := hc i hi
  exact ⟨c0.trans (congrArg some e0), c1.trans (congrArg some e1), c2.trans (congrArg some e2)⟩

/-- The states of a model. -/
theorem open_st {k : Nat} {v : Value} {x : DataW H × List MemPlace} (h : DataW.trod enc Tryz.prog W base spare held k 22 [v] = some x) :
    ∃ (A : Option Addr) (n c : Nat) (st : Nat → StV), v = .slice A n c ∧ n ≤ 9223372036854775807 ∧ Lst W A n st ∧ FitsM n st := by
  obtain ⟨A, n, c, N, p, q, r, rfl, hn, hr, hy⟩ := open_rows3 Tryz.underlying22 (by kernel_rfl) h
  have key : ∀ i, i < n → ∃ g : StV, p i = .int .i64 g.ow ∧ q i = .int .i64 g.mrk ∧ r i = .slice g.A g.n g.c ∧ g.n ≤ 9223372036854775807 ∧ Lch W g.A g.n g.ch ∧ ∀ j, j < g.n → (g.ch j).n ≤ 9223372036854775807 := fun i hi => by
    obtain ⟨y, hy⟩ := hy i hi
    obtain ⟨e0, e1, m, z, hz⟩ := trod_state_ hy
    obtain ⟨B, d, e, ch, e2, hd, hL, hq⟩ := open_ch hz
    exact ⟨⟨intOf1 (p i), intOf1 (q i), B, d, e, ch⟩, e0, e1, e2, hd, hL, hq⟩
  obtain ⟨g, hg⟩ := choose_lt key
  refine ⟨A, n, c, g, rfl, hn, ⟨fun h0 => ?_, fun i hi => (hg i hi).2.2.2.2.1⟩, fun i hi => (hg i hi).2.2.2.1, fun i j hi hj => (hg i hi).2.2.2.2.2 j hj⟩
  obtain ⟨b, off, hA, hb, hc⟩ := hr h0
  refine ⟨b, off, hA, hb, fun i hi => ?_⟩
  obtain ⟨e0, e1, e2, -⟩ := hg i hi
  obtain ⟨c0, c1, c2⟩ := hc i hi
  exact ⟨c0.trans (congrArg some e0), c1.trans (congrArg some e1), c2.trans (congrArg some e2)⟩

set_option maxRecDepth 100000 in
/-- A model as an argument. -/
theorem open_model {b0 : Nat} {v : Value} {d : DataW H} {p : List MemPlace} {r : Reach} (hv : Value.okWide Tryz.prog W r b0 24 v) (h : DataW.Trod enc Tryz.prog W base spare held 24 v d p) :
    ∃ A n c st, v = .agg #[.slice A n c] ∧ Lst W A n st ∧ FitsM n st := by
  obtain ⟨cs, rfl, hcs⟩ := okWide_struct Tryz.underlying24 hv
  rw [show Tryz.prog.cellsOf 24 = 1 by kernel_rfl] at hcs
  obtain ⟨fuel, h⟩ := h
  obtain ⟨y, n, h0⟩ := trod_one Tryz.underlying24 h
  rw [show Tryz.prog.cellsOf 22 = 1 by kernel_rfl] at h0
  obtain ⟨l⟩ := cs
  match l, hcs with
  | [x], _ =>
    obtain ⟨A, n, c, st, e, hn, hL, hF⟩ := open_st (v := x) (x := y) h0
    exact ⟨A, n, c, st, by rw [e], hL, hF⟩

set_option maxRecDepth 100000 in
/-- A list of whole numbers as an argument. -/
theorem open_ints1 {b0 : Nat} {v : Value} {d : DataW H} {p : List MemPlace} {r : Reach} (hv : Value.okWide Tryz.prog W r b0 25 v) (h : DataW.Trod enc Tryz.prog W base spare held 25 v d p) :
    ∃ A n c f, v = .slice A n c ∧ Lin W A n f := by
  obtain ⟨A, n, c, rfl⟩ := okWide_slice Tryz.underlying25 hv
  obtain ⟨fuel, h⟩ := h
  rcases open_slice1 Tryz.underlying25 (by kernel_rfl) h with ⟨e, -⟩ | ⟨a, len, cap, m, k, V, D, Pl, e, hb, hl, hm, hmm, -, hc⟩
  · simp [Value.cells] at e
    obtain ⟨rfl, rfl, rfl⟩ := e
    exact ⟨none, 0, 0, fun _ => 0, rfl, fun h => absurd h (by omega)⟩
  · simp [Value.cells] at e
    obtain ⟨rfl, rfl, rfl⟩ := e
    have hnm : n ≤ m := by rw [hmm]; split <;> omega
    refine ⟨some a, n, c, fun i => intOf1 (V i), rfl, fun h0 => ?_⟩
    have h1 := (hc 0 (by omega)).1
    have hsp : a.spot = none := World.cell?_spot (a := a) (by simpa [Addr.add] using h1)
    obtain ⟨b, off, sp⟩ := a
    simp only at hsp
    subst hsp
    refine ⟨b, off, rfl, ?_, fun i hi => ?_⟩
    · unfold World.cell? at h1
      cases hh : W.heap[b]? with
      | none => simp [hh, Addr.add] at h1
      | some o => exact (Array.getElem?_eq_some_iff.1 hh).1
    · obtain ⟨h1, h2⟩ := hc i (by omega)
      rw [add_plain] at h1
      exact h1.trans (congrArg some (trod_int_ h2))
end

end Go.Proofs.YtabaknkjcoibpaaGreatDoor
