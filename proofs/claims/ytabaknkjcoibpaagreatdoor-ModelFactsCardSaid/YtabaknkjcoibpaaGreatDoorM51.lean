/- The law ModelFacts, for all models and lists: each way put together. The step from a law's contract to its row: the call leaves a world of which it is known that nothing below has changed. Arguments that are only read: behind a call that leaves what was there before as it was, they read as before, whatever their types. A model and a list of whole numbers as arguments, opened. For all models a and b, valid or not, of any size, and every list l of whole numbers, of any length, the law ModelFacts returns true (Valid, Chain, Plain, ValidSet, ValidStrategy and Identical return what the reference returns, results and errors), and its arguments read afterwards as before. What is listed of the package variables is tied to the program's text by the card. -/
import Derived.Test.YtabaknkjcoibpaaGreatDoorM50
import Derived.Test.YtabaknkjcoibpaaGreatDoorRows
import Derived.WalkKit
import Derived.ProofKit
import Derived.OpenShut
import Derived.Below
import Derived.ChangeSame
import Derived.Lib.SmallJoins
import Derived.Carry
import Derived.ChangeOld
import Derived.Deep.Slices
import Derived.Deep.Strs
import Derived.Lib.LaidU8
import Derived.Lay
import Derived.LaidOnce

namespace Go.Proofs.YtabaknkjcoibpaaGreatDoor
open Go.RowKit

/-- Inner lists are no longer than a list can be. -/
def FitsM (n : Nat) (st : Nat → StV) : Prop := (∀ i, i < n → (st i).n ≤ 9223372036854775807) ∧ ∀ i j, i < n → j < (st i).n → ((st i).ch j).n ≤ 9223372036854775807

theorem few_cv {A : Option Addr} {n c : Nat} {st : Nat → StV} {w : World} (hf : FitsM n st) (hA : Lst w A n st) : CV 43 #[.int .i64 40, .agg #[.slice A n c]] (.bool (fewB n st)) w :=
  fun wx hb => few_any A n c st wx (hA.keep hb) hf.1 hf.2

theorem few_szs {n : Nat} {st : Nat → StV} (h : fewB n st = true) : Szs n st := by
  simp only [fewB, Bool.and_eq_true, Bool.not_eq_true', decide_eq_false_iff_not] at h
  refine ⟨by omega, fun i hi => ?_, fun i j hi hj => ?_⟩
  · have h2 := allB_get h.2 hi
    simp only [fewS, Bool.and_eq_true, Bool.not_eq_true', decide_eq_false_iff_not] at h2
    omega
  · have h2 := allB_get h.2 hi
    simp only [fewS, Bool.and_eq_true] at h2
    have h3 := allB_get h2.2 hj
    simp only [fewC, Bool.not_eq_true', decide_eq_false_iff_not] at h3
    omega

theorem facts_any (A : Option Addr) (n c : Nat) (B : Option Addr) (m d : Nat) (L : Option Addr) (q e : Nat) (st st' : Nat → StV) (f : Nat → Int) (w : World) (hA : Lst w A n st) (hB : Lst w B m st') (hL : Lin w L q f) (hfa : FitsM n st) (hfb : FitsM m st') (htab : Tab w) :
    Calls Tryz.prog 3 #[.agg #[.slice A n c], .agg #[.slice B m d], .slice L q e] w fun e w' => e = .returned (.bool true) ∧ Below w.heap.size w w' := by
  have HAw : CV 11 #[] (.bool true) w := fun wx hb => awake_any wx (htab.keep hb)
  have HFa := few_cv (c := c) hfa hA
  have HFb := few_cv (c := d) hfb hB
  cases hb : fewB n st && fewB m st' with
  | false => exact facts_dark A n c B m d L q e _ _ hb w HFa HFb HAw
  | true =>
  cases hq : decide ((60 : Int) < (q : Int)) with
  | true => exact facts_long A n c B m d L q e _ _ hb hq w HFa HFb HAw
  | false =>
  have hb2 := hb
  rw [Bool.and_eq_true] at hb2
  have hs := few_szs hb2.1
  have hs' := few_szs hb2.2
  have hq2 : q ≤ 1000000 := by
    have := of_decide_eq_false hq
    omega
  have V1 := mv_cv (c := c) hs hA
  have V2 := rmv_cv (c := c) hs hA
  have I1 : CV 22 #[.agg #[.slice A n c], .agg #[.slice B m d]] (.bool (moE n m st st')) w := fun wx hx => ident_any A B n c m d st st' wx (hA.keep hx) (hB.keep hx) hs hs'
  have I2 : CV 23 #[.agg #[.slice A n c], .agg #[.slice B m d]] (.bool (moE n m st st')) w := fun wx hx => rident_any A B n c m d st st' wx (hA.keep hx) (hB.keep hx) hs hs'
  cases hM : moB n st with
  | false =>
    rw [hM] at V1 V2
    exact facts_all A n c B m d L q e _ _ hb hq false false false false false (moE n m st st') 1 1 1 1 w HFa HFb
      (Lib.hid fun wx hx => rchain_bad A n c wx (V2.keep hx)) (Lib.hid fun wx hx => rplain_bad A n c wx (V2.keep hx)) (Lib.hid fun wx hx => rvset_bad A n c L q e wx (V2.keep hx)) (Lib.hid fun wx hx => rvstr_bad A n c L q e wx (V2.keep hx))
      (Lib.hid fun wx hx => chain_bad A n c wx (V1.keep hx)) (Lib.hid fun wx hx => plain_bad A n c wx (V1.keep hx)) (Lib.hid fun wx hx => vset_bad A n c L q e wx (V1.keep hx)) (Lib.hid fun wx hx => vstr_bad A n c L q e wx (V1.keep hx))
      V1 V2 I1 I2 HAw
  | true =>
    rw [hM] at V1 V2
    exact facts_all A n c B m d L q e _ _ hb hq (allB (oneR st) n) (plainB n st) (allB (setP n f) q) (strB n q st f) true (moE n m st st') 0 0 0 0 w HFa HFb
      (Lib.hid fun wx hx => rchain_ok A n c _ wx (V2.keep hx) (Lib.hid fun wy hy => rsingle_any A n c st wy hs.1 (hA.keep (hx.trans (hy.mono hx.size)))))
      (Lib.hid fun wx hx => rplain_ok A n c _ wx (V2.keep hx) (Lib.hid fun wy hy => easy_any A n c st wy (hA.keep (hx.trans (hy.mono hx.size))) hM))
      (Lib.hid fun wx hx => rvset_ok A n c L q e _ wx (V2.keep hx) (Lib.hid fun wy hy => rset_any A L n c q e f wy hs.1 hq2 (hL.keep (hx.trans (hy.mono hx.size)))))
      (Lib.hid fun wx hx => rvstr_ok A n c L q e _ wx (V2.keep hx) (Lib.hid fun wy hy => rstr_any A L n c q e st f wy hs.1 hq2 (hA.keep (hx.trans (hy.mono hx.size))) hs.2.1 (hL.keep (hx.trans (hy.mono hx.size)))))
      (Lib.hid fun wx hx => by rw [← one_same hM]; exact chain_ok A n c st wx hs.1 (hA.keep hx) (V1.keep hx))
      (Lib.hid fun wx hx => plain_any A n c st wx (V1.keep hx) (hA.keep hx) hM)
      (Lib.hid fun wx hx => vset_ok A n c L q e _ wx (V1.keep hx) (Lib.hid fun wy hy => isSet_any A L n c q e f wy hs.1 hq2 (hL.keep (hx.trans (hy.mono hx.size)))))
      (Lib.hid fun wx hx => vstr_ok A n c L q e _ wx (V1.keep hx) (Lib.hid fun wy hy => isStr_any A L n c q e st f wy hs.1 hq2 (hA.keep (hx.trans (hy.mono hx.size))) hs.2.1 (hL.keep (hx.trans (hy.mono hx.size)))))
      V1 V2 I1 I2 HAw

end Go.Proofs.YtabaknkjcoibpaaGreatDoor

namespace Go.Proofs.YtabaknkjcoibpaaGreatDoor
open Go.ChangeShapes Go.WideShapes Go.ChangeAt Go.RowKit Go.Joins

theorem Tryz.own : ownKnob Tryz.prog.godebug = none := by kernel_rfl
theorem Tryz.cells62 : Tryz.prog.cellsOf 62 = 2 := by kernel_rfl

section
variable {H : Type} {enc : TypeId × Value → H} {P : Program}
theorem post_of_below {f : Func} {s : ChangeSpec} {apart fresh handsOn again : Bool} {W W' : World} {args : Array Value} {v : Value} {ds gs : List (DataW H)} {before pa pv : List MemPlace}
    (hW : DataW.Whole enc P f.params.toList s.vars apart W args.toList ds gs before)
    (hres : ∀ (b : Nat) (sp : Nat → Bool) (hd : Bool), DataW.TrodAll enc P W' b sp hd f.resultTypes.toList (v.resultList f.resultTypes.size) (s.fn H (ds ++ gs)).results [])
    (hargs : ∀ sp : Nat → Bool, (∀ p ∈ before, sp p.block = true) → DataW.TrodAll enc P W' 0 sp true f.params.toList args.toList (s.fn H (ds ++ gs)).args pa)
    (hvars : ∀ sp : Nat → Bool, (∀ p ∈ before, sp p.block = true) → DataW.TrodVars enc P W' sp s.vars (s.fn H (ds ++ gs)).vars pv)
    (hps : before = pa ++ pv) (hb : Below W.heap.size W W')
    (hok : ∀ (j : Nat) (t : TypeId) (r : Value), f.resultTypes[j]? = some t → (v.resultList f.resultTypes.size)[j]? = some r → Value.okWide P W' .any 0 t r) :
    s.post enc P f apart fresh handsOn again W args v W' := by
  have hlt : ∀ p ∈ before, p.block < W.heap.size := fun p hp => hW.lt p hp
  have hold : ∀ p ∈ before, (fun b => decide (b < W.heap.size)) p.block = true := fun p hp => by simpa using hlt p hp
  refine ⟨ds, gs, before, [], pa, pv, hW, hres _ _ _, hargs _ hold, hvars _ hold, World.keptBut_mono (fun p hp => ⟨hp, ?_⟩) (hb.frame (· ∈ before)), fun _ => ?_⟩
  · rw [hps, List.mem_append] at hp
    exact Or.inr hp
  · obtain ⟨_, _, _, _, _, hz, hn⟩ := hW
    refine ⟨hok, _, _, ([] ++ pa) ++ pv, ⟨[] ++ pa, pv, trodAll_append (hargs _ (fun _ _ => rfl)) (hres _ _ _), hvars _ (fun _ _ => rfl), rfl, ?_, ?_⟩, ?_⟩
    · intro b off hp
      have hin : MemPlace.cell b off ∈ before := by rw [hps]; simpa using hp
      rw [hb.frozen (hlt _ hin)]
      exact hz b off hin
    · intro ha
      have := hn ha
      rw [hps] at this
      simpa using this
    · intro p hp _
      rw [hps]
      simpa using hp
end

set_option maxRecDepth 100000 in
/-- A number as an argument: opened. -/
theorem open_num {H : Type} {enc : TypeId × Value → H} {W : World} {base b0 : Nat} {spare : Nat → Bool} {held : Bool} {v : Value} {d : DataW H} {p : List MemPlace} {r : Reach} (hv : Value.okWide Tryz.prog W r b0 62 v) (h : DataW.Trod enc Tryz.prog W base spare held 62 v d p) :
    ∃ a b : Int, v = .agg #[.int .i64 a, .int .i64 b] ∧ d = .agg [.lit (.int .i64 a), .lit (.int .i64 b)] ∧ p = [] ∧ (Lit.int .i64 a).wf = true ∧ (Lit.int .i64 b).wf = true := by
  obtain ⟨c0, c1, y0, y1, m, rfl, rfl, rfl, hy0, hy1⟩ := open_agg2 Tryz.underlying62 (by kernel_rfl) Tryz.cells62 hv h
  obtain ⟨a, e0, rfl, wa⟩ := DataW.trod_int Tryz.underlying3 hy0
  obtain ⟨b, e1, rfl, wb⟩ := DataW.trod_int Tryz.underlying3 hy1
  simp at e0 e1
  subst e0 e1
  exact ⟨a, b, rfl, rfl, rfl, wa, wb⟩

set_option maxRecDepth 100000 in
/-- .. and shut. -/
theorem shut_num {H : Type} {enc : TypeId × Value → H} {W : World} {base : Nat} {spare : Nat → Bool} {held : Bool} {a b : Int} (wa : (Lit.int .i64 a).wf = true) (wb : (Lit.int .i64 b).wf = true) :
    DataW.Trod enc Tryz.prog W base spare held 62 (.agg #[.int .i64 a, .int .i64 b]) (.agg [.lit (.int .i64 a), .lit (.int .i64 b)]) [] :=
  shut_agg2 (y0 := (.lit (.int .i64 a), [])) (y1 := (.lit (.int .i64 b), [])) Tryz.underlying62 (by kernel_rfl) Tryz.cells62 ⟨1, by simp [DataW.trod, Tryz.underlying3, wa]⟩ ⟨1, by simp [DataW.trod, Tryz.underlying3, wb]⟩

end Go.Proofs.YtabaknkjcoibpaaGreatDoor

namespace Go.Proofs.YtabaknkjcoibpaaGreatDoor
open Go.ChangeShapes Go.WideShapes Go.ChangeAt Go.RowKit Go.Joins Go.WideElems

section
variable {H : Type} {enc : TypeId × Value → H} {P : Program}
/-- One closed fact: the types can be read and are rows of the table. -/
def paramsRowed (P : Program) (ts : List TypeId) : Bool := ts.all fun t => P.readableRec t && decide (t < P.types.size)

theorem trodAll_stays (hl : laidOutB P = true) {W W' : World} (hb : Below W.heap.size W W') {sp : Nat → Bool} :
    ∀ {ts : List TypeId} {vs : List Value} {ds : List (DataW H)} {ps : List MemPlace}, paramsRowed P ts = true → DataW.TrodAll enc P W 0 (fun _ => true) true ts vs ds ps → (∀ p ∈ ps, p.block < W.heap.size) → (∀ p ∈ ps, sp p.block = true) →
      DataW.TrodAll enc P W' 0 sp true ts vs ds ps
  | [], [], [], _, _, h, _, _ => h
  | [], [], _ :: _, _, _, h, _, _ => h.elim
  | [], _ :: _, _, _, _, h, _, _ => h.elim
  | _ :: _, [], _, _, _, h, _, _ => h.elim
  | _ :: _, _ :: _, [], _, _, h, _, _ => h.elim
  | t :: ts, v :: vs, d :: ds, ps, hr, h, hlt, hs => by
    obtain ⟨p, q, ⟨fuel, h1⟩, h2, rfl⟩ := h
    simp only [paramsRowed, List.all_cons, Bool.and_eq_true, decide_eq_true_eq] at hr
    refine ⟨p, q, ⟨fuel, ?_⟩, trodAll_stays hl hb (by simpa [paramsRowed] using hr.2) h2 (fun x hx => hlt x (by simp [hx])) (fun x hx => hs x (by simp [hx])), rfl⟩
    exact DataW.trod_stays (kids_book hl hr.1.1) (book_sized hr.1.1) (fun h => by cases h) ⟨hr.1.2, book_self t⟩ h1 (fun x hx => hb.same (hlt x (by simp [hx]))) (fun x hx => hs x (by simp [hx]))

/-- The step from a law's contract to its row, for arguments of any types that are only read and that the row hands on. -/
theorem post_of_stays {f : Func} {s : ChangeSpec} {apart fresh handsOn again : Bool} {W W' : World} {args : Array Value} {v : Value} {ds : List (DataW H)} {before : List MemPlace}
    (hl : laidOutB P = true) (hrow : paramsRowed P f.params.toList = true) (hv0 : s.vars = [])
    (hW : DataW.Whole enc P f.params.toList s.vars apart W args.toList ds [] before)
    (hres : ∀ (b : Nat) (sp : Nat → Bool) (hd : Bool), DataW.TrodAll enc P W' b sp hd f.resultTypes.toList (v.resultList f.resultTypes.size) (s.fn H (ds ++ [])).results [])
    (hargs : (s.fn H (ds ++ [])).args = ds) (hvars : (s.fn H (ds ++ [])).vars = [])
    (hb : Below W.heap.size W W')
    (hok : ∀ (j : Nat) (t : TypeId) (r : Value), f.resultTypes[j]? = some t → (v.resultList f.resultTypes.size)[j]? = some r → Value.okWide P W' .any 0 t r) :
    s.post enc P f apart fresh handsOn again W args v W' := by
  have hlt : ∀ p ∈ before, p.block < W.heap.size := fun p hp => hW.lt p hp
  have hW' := hW
  obtain ⟨pa, pv, hA, hV, hps, -, -⟩ := hW
  rw [hv0] at hV
  obtain rfl : pv = [] := hV
  rw [List.append_nil] at hps
  subst hps
  refine post_of_below (pa := before) (pv := []) hW' hres (fun sp hsp => ?_) (fun sp _ => ?_) (by simp) hb hok
  · rw [hargs]
    exact trodAll_stays hl hb hrow hA hlt hsp
  · rw [hv0, hvars]
    exact rfl
end

end Go.Proofs.YtabaknkjcoibpaaGreatDoor

namespace Go.Proofs.YtabaknkjcoibpaaGreatDoor
open Go.ChangeShapes Go.WideShapes Go.ChangeAt Go.RowKit Go.Joins Go.Deep

def intOf1 (v : Value) : Int := match v with | .int _ z => z | _ => 0
def slA (v : Value) : Option Addr := match v with | .slice a _ _ => a | _ => none
def slN (v : Value) : Nat := match v with | .slice _ n _ => n | _ => 0
def slC (v : Value) : Nat := match v with | .slice _ _ c => c | _ => 0

section
variable {H : Type} {enc : TypeId × Value → H} {P : Program} {W : World} {base : Nat} {spare : Nat → Bool} {held : Bool}

theorem trod_one {t : TypeId} {f0 : Field} {fuel : Nat} {cs : List Value} {x : DataW H × List MemPlace} (ht : P.underlying t = some (.struct #[f0])) (h : DataW.trod enc P W base spare held fuel t cs = some x) :
    ∃ y0 n, DataW.trod enc P W base spare held n f0.type ((cs.drop f0.offset).take (P.cellsOf f0.type)) = some y0 := by
  obtain ⟨xs, n, -, -, -, hlen, hf⟩ := DataW.trod_struct ht h
  match xs, hlen with
  | [y0], _ => exact ⟨y0, n, by simpa using hf 0 f0 rfl⟩

/-- A slice whose elements are three cells each. -/
theorem open_rows3 {t e : TypeId} {fuel : Nat} {v : Value} {x : DataW H × List MemPlace} (ht : P.underlying t = some (.slice e)) (ce : P.cellsOf e = 3) (h : DataW.trod enc P W base spare held fuel t [v] = some x) :
    ∃ (A : Option Addr) (n c N : Nat) (p q r : Nat → Value), v = .slice A n c ∧ n ≤ 9223372036854775807 ∧ Rows3 W A n p q r ∧ ∀ i, i < n → ∃ y, DataW.trod enc P W base spare held N e [p i, q i, r i] = some y := by
  rcases open_slice ht h with ⟨e0, -⟩ | ⟨a, len, cap, m, k, D, Pl, e0, hb, hl, hm, hmm, -, hx⟩
  · obtain rfl := (List.cons.inj e0).1
    exact ⟨none, 0, 0, 0, fun _ => .int .i64 0, fun _ => .int .i64 0, fun _ => .int .i64 0, rfl, by omega, fun h => absurd h (by omega), fun i hi => absurd hi (by omega)⟩
  · obtain rfl := (List.cons.inj e0).1
    have hnm : len ≤ m := by rw [hmm]; split <;> omega
    rw [ce] at hx
    have key : ∀ i, i < len → ∃ z : Value × Value × Value, W.cell? (a.add (i * 3)) = some z.1 ∧ W.cell? ((a.add (i * 3)).add 1) = some z.2.1 ∧ W.cell? ((a.add (i * 3)).add 2) = some z.2.2 ∧ ∃ y, DataW.trod enc P W base spare held k e [z.1, z.2.1, z.2.2] = some y := fun i hi => by
      obtain ⟨cs', h1, h2⟩ := hx i (by omega)
      obtain ⟨_, hlen, hc⟩ := World.cells?_some h1
      match cs', hlen with
      | [v0, v1, v2], _ => exact ⟨(v0, v1, v2), (hc 0 (by omega)), hc 1 (by omega), hc 2 (by omega), _, h2⟩
    obtain ⟨f, hf⟩ := choose_lt (α := Value × Value × Value) key
    refine ⟨some a, len, cap, k, fun i => (f i).1, fun i => (f i).2.1, fun i => (f i).2.2, rfl, by unfold maxLen at hm; omega, fun h0 => ?_, fun i hi => (hf i hi).2.2.2⟩
    have hsp : a.spot = none := by
      have h1 := (hf 0 h0).1
      rw [Nat.zero_mul] at h1
      exact World.cell?_spot (a := a) (by simpa [Addr.add] using h1)
    obtain ⟨b, off, sp⟩ := a
    simp only at hsp
    subst hsp
    refine ⟨b, off, rfl, ?_, fun i hi => ?_⟩
    · have h1 := (hf 0 h0).1
      unfold World.cell? at h1
      cases hh : W.heap[b]? with
      | none => simp [hh, Addr.add] at h1
      | some o => exact (Array.getElem?_eq_some_iff.1 hh).1
    · obtain ⟨h1, h2, h3, -⟩ := hf i hi
      rw [add_plain] at h1 h2 h3
      rw [add_plain] at h2 h3
      exact ⟨h1, h2, h3⟩
end

section
variable {H : Type} {enc : TypeId × Value → H} {W : World} {base : Nat} {spare : Nat → Bool} {held : Bool}

theorem trod_int_ {k : Nat} {v : Value} {y : DataW H × List MemPlace} (h : DataW.trod enc Tryz.prog W base spare held k 3 [v] = some y) : v = .int .i64 (intOf1 v) := by
  obtain ⟨z, e, -, -⟩ := DataW.trod_int Tryz.underlying3 h
  obtain rfl := (List.cons.inj e).1
  rfl
theorem trod_num_ {k : Nat} {u v : Value} {y : DataW H × List MemPlace} (h : DataW.trod enc Tryz.prog W base spare held k 62 [u, v] = some y) : u = .int .i64 (intOf1 u) ∧ v = .int .i64 (intOf1 v) := by
  obtain ⟨y0, y1, n, -, -, h0, h1⟩ := trod_struct2 Tryz.underlying62 h
  rw [show Tryz.prog.cellsOf 3 = 1 by kernel_rfl] at h0 h1
  exact ⟨trod_int_ h0, trod_int_ h1⟩
theorem trod_branch_ {k : Nat} {u v x : Value} {y : DataW H × List MemPlace} (h : DataW.trod enc Tryz.prog W base spare held k 74 [u, v, x] = some y) : u = .int .i64 (intOf1 u) ∧ v = .int .i64 (intOf1 v) ∧ x = .int .i64 (intOf1 x) := by
  obtain ⟨y0, y1, n, -, -, h0, h1⟩ := trod_struct2 Tryz.underlying74 h
  rw [show Tryz.prog.cellsOf 3 = 1 by kernel_rfl] at h0
  rw [show Tryz.prog.cellsOf 62 = 2 by kernel_rfl] at h1
  exact ⟨trod_int_ h0, trod_num_ h1⟩
theorem trod_choice_ {k : Nat} {u v x : Value} {y : DataW H × List MemPlace} (h : DataW.trod enc Tryz.prog W base spare held k 65 [u, v, x] = some y) : u = .int .i64 (intOf1 u) ∧ v = .int .i64 (intOf1 v) ∧ ∃ n y, DataW.trod enc Tryz.prog W base spare held n 63 [x] = some y := by
  obtain ⟨y0, y1, n, -, -, h0, h1⟩ := trod_struct2 Tryz.underlying65 h
  rw [show Tryz.prog.cellsOf 62 = 2 by kernel_rfl] at h0
  rw [show Tryz.prog.cellsOf 63 = 1 by kernel_rfl] at h1
  exact ⟨(trod_num_ h0).1, (trod_num_ h0).2, n, y1, h1⟩
theorem trod_state_ {k : Nat} {u v x : Value} {y : DataW H × List MemPlace} (h : DataW.trod enc Tryz.prog W base spare held k 53 [u, v, x] = some y) : u = .int .i64 (intOf1 u) ∧ v = .int .i64 (intOf1 v) ∧ ∃ n y, DataW.trod enc Tryz.prog W base spare held n 51 [x] = some y := by
  obtain ⟨y0, y1, y2, n, -, -, h0, h1, h2⟩ := trod_struct3 Tryz.underlying53 h
  rw [show Tryz.prog.cellsOf 3 = 1 by kernel_rfl] at h0 h1
  rw [show Tryz.prog.cellsOf 51 = 1 by kernel_rfl] at h2
  exact ⟨trod_int_ h0, trod_int_ h1, n, y2, h2⟩

/-- The branches of a choice. -/
theorem open_br {k : Nat} {v : Value} {x : DataW H × List MemPlace} (h : DataW.trod enc Tryz.prog W base spare held k 63 [v] = some x) :
    ∃ (A : Option Addr) (n c : Nat) (tw ct cl : Nat → Int), v = .slice A n c ∧ n ≤ 9223372036854775807 ∧ Lbr W A n tw ct cl := by
  obtain ⟨A, n, c, N, p, q, r, rfl, hn, hr, hy⟩ := open_rows3 Tryz.underlying63 (by kernel_rfl) h
  refine ⟨A, n, c, fun i => intOf1 (p i), fun i => intOf1 (q i), fun i => intOf1 (r i), rfl, hn, fun h0 => ?_⟩
  obtain ⟨b, off, hA, hb, hc⟩ := hr h0
  refine ⟨b, off, hA, hb, fun i hi => ?_⟩
  obtain ⟨y, hy⟩ := hy i hi
  obtain ⟨e0, e1, e2⟩ := trod_branch_ hy
  obtain ⟨c0, c1, c2⟩ := hc i hi
  exact ⟨c0.trans (congrArg some e0), c1.trans (congrArg some e1), c2.trans (congrArg some e2)⟩

instance : Inhabited ChV := ⟨⟨0, 0, none, 0, 0, fun _ => 0, fun _ => 0, fun _ => 0⟩⟩
instance : Inhabited StV := ⟨⟨0, 0, none, 0, 0, fun _ => default⟩⟩

/-- The choices of a state. -/
theorem open_ch {k : Nat} {v : Value} {x : DataW H × List MemPlace} (h : DataW.trod enc Tryz.prog W base spare held k 51 [v] = some x) :
    ∃ (A : Option Addr) (n c : Nat) (ch : Nat → ChV), v = .slice A n c ∧ n ≤ 9223372036854775807 ∧ Lch W A n ch ∧ ∀ j, j < n → (ch j).n ≤ 9223372036854775807 := by
  obtain ⟨A, n, c, N, p, q, r, rfl, hn, hr, hy⟩ := open_rows3 Tryz.underlying51 (by kernel_rfl) h
  have key : ∀ i, i < n → ∃ g : ChV, p i = .int .i64 g.t ∧ q i = .int .i64 g.l ∧ r i = .slice g.A g.n g.c ∧ g.n ≤ 9223372036854775807 ∧ Lbr W g.A g.n g.tw g.ct g.cl := fun i hi => by
    obtain ⟨y, hy⟩ := hy i hi
    obtain ⟨e0, e1, m, z, hz⟩ := trod_choice_ hy
    obtain ⟨B, d, e, tw, ct, cl, e2, hd, hL⟩ := open_br hz
    exact ⟨⟨intOf1 (p i), intOf1 (q i), B, d, e, tw, ct, cl⟩, e0, e1, e2, hd, hL⟩
  obtain ⟨g, hg⟩ := choose_lt key
  refine ⟨A, n, c, g, rfl, hn, ⟨fun h0 => ?_, fun i hi => (hg i hi).2.2.2.2⟩, fun i hi => (hg i hi).2.2.2.1⟩
  obtain ⟨b, off, hA, hb, hc⟩ := hr h0
  refine ⟨b, off, hA, hb, fun i hi => ?_⟩
  obtain ⟨e0, e1, e2, -⟩ := hg i hi
  obtain ⟨c0, c1, c2⟩ := hc i hi
  exact ⟨c0.trans (congrArg some e0), c1.trans (congrArg some e1), c2.trans (congrArg some e2)⟩

/-- The states of a model. -/
theorem open_st {k : Nat} {v : Value} {x : DataW H × List MemPlace} (h : DataW.trod enc Tryz.prog W base spare held k 22 [v] = some x) :
    ∃ (A : Option Addr) (n c : Nat) (st : Nat → StV), v = .slice A n c ∧ n ≤ 9223372036854775807 ∧ Lst W A n st ∧ FitsM n st := by
  obtain ⟨A, n, c, N, p, q, r, rfl, hn, hr, hy⟩ := open_rows3 Tryz.underlying22 (by kernel_rfl) h
  have key : ∀ i, i < n → ∃ g : StV, p i = .int .i64 g.ow ∧ q i = .int .i64 g.mrk ∧ r i = .slice g.A g.n g.c ∧ g.n ≤ 9223372036854775807 ∧ Lch W g.A g.n g.ch ∧ ∀ j, j < g.n → (g.ch j).n ≤ 9223372036854775807 := fun i hi => by
    obtain ⟨y, hy⟩ := hy i hi
    obtain ⟨e0, e1, m, z, hz⟩ := trod_state_ hy
    obtain ⟨B, d, e, ch, e2, hd, hL, hq⟩ := open_ch hz
    exact ⟨⟨intOf1 (p i), intOf1 (q i), B, d, e, ch⟩, e0, e1, e2, hd, hL, hq⟩
  obtain ⟨g, hg⟩ := choose_lt key
  refine ⟨A, n, c, g, rfl, hn, ⟨fun h0 => ?_, fun i hi => (hg i hi).2.2.2.2.1⟩, fun i hi => (hg i hi).2.2.2.1, fun i j hi hj => (hg i hi).2.2.2.2.2 j hj⟩
  obtain ⟨b, off, hA, hb, hc⟩ := hr h0
  refine ⟨b, off, hA, hb, fun i hi => ?_⟩
  obtain ⟨e0, e1, e2, -⟩ := hg i hi
  obtain ⟨c0, c1, c2⟩ := hc i hi
  exact ⟨c0.trans (congrArg some e0), c1.trans (congrArg some e1), c2.trans (congrArg some e2)⟩

set_option maxRecDepth 100000 in
/-- A model as an argument. -/
theorem open_model {b0 : Nat} {v : Value} {d : DataW H} {p : List MemPlace} {r : Reach} (hv : Value.okWide Tryz.prog W r b0 24 v) (h : DataW.Trod enc Tryz.prog W base spare held 24 v d p) :
    ∃ A n c st, v = .agg #[.slice A n c] ∧ Lst W A n st ∧ FitsM n st := by
  obtain ⟨cs, rfl, hcs⟩ := okWide_struct Tryz.underlying24 hv
  rw [show Tryz.prog.cellsOf 24 = 1 by kernel_rfl] at hcs
  obtain ⟨fuel, h⟩ := h
  obtain ⟨y, n, h0⟩ := trod_one Tryz.underlying24 h
  rw [show Tryz.prog.cellsOf 22 = 1 by kernel_rfl] at h0
  obtain ⟨l⟩ := cs
  match l, hcs with
  | [x], _ =>
    obtain ⟨A, n, c, st, e, hn, hL, hF⟩ := open_st (v := x) (x := y) h0
    exact ⟨A, n, c, st, by rw [e], hL, hF⟩

set_option maxRecDepth 100000 in
/-- A list of whole numbers as an argument. -/
theorem open_ints1 {b0 : Nat} {v : Value} {d : DataW H} {p : List MemPlace} {r : Reach} (hv : Value.okWide Tryz.prog W r b0 25 v) (h : DataW.Trod enc Tryz.prog W base spare held 25 v d p) :
    ∃ A n c f, v = .slice A n c ∧ Lin W A n f := by
  obtain ⟨A, n, c, rfl⟩ := okWide_slice Tryz.underlying25 hv
  obtain ⟨fuel, h⟩ := h
  rcases open_slice1 Tryz.underlying25 (by kernel_rfl) h with ⟨e, -⟩ | ⟨a, len, cap, m, k, V, D, Pl, e, hb, hl, hm, hmm, -, hc⟩
  · simp [Value.cells] at e
    obtain ⟨rfl, rfl, rfl⟩ := e
    exact ⟨none, 0, 0, fun _ => 0, rfl, fun h => absurd h (by omega)⟩
  · simp [Value.cells] at e
    obtain ⟨rfl, rfl, rfl⟩ := e
    have hnm : n ≤ m := by rw [hmm]; split <;> omega
    refine ⟨some a, n, c, fun i => intOf1 (V i), rfl, fun h0 => ?_⟩
    have h1 := (hc 0 (by omega)).1
    have hsp : a.spot = none := World.cell?_spot (a := a) (by simpa [Addr.add] using h1)
    obtain ⟨b, off, sp⟩ := a
    simp only at hsp
    subst hsp
    refine ⟨b, off, rfl, ?_, fun i hi => ?_⟩
    · unfold World.cell? at h1
      cases hh : W.heap[b]? with
      | none => simp [hh, Addr.add] at h1
      | some o => exact (Array.getElem?_eq_some_iff.1 hh).1
    · obtain ⟨h1, h2⟩ := hc i (by omega)
      rw [add_plain] at h1
      exact h1.trans (congrArg some (trod_int_ h2))
end

end Go.Proofs.YtabaknkjcoibpaaGreatDoor

namespace Go.Proofs.YtabaknkjcoibpaaGreatDoor.lawFacts
open Go.ChangeShapes Go.WideShapes Go.ChangeAt Go.RowKit Go.Joins Go.Deep

theorem gP : Tryz.prog.globalNamed "internal/strconv.uint64pow10" = some 0 := by kernel_rfl

/-- The table, off what the row lists. -/
theorem tab_of_laid {W : World} (h : laidMet Tryz.prog Rows.modelFactsRow.laid W) : Tab W := by
  obtain ⟨g, t, cs, fuel, p, h1, h2, h3, h4⟩ := Lib.laidMet.reads h (n := "internal/strconv.uint64pow10") (d := Rows.laid_internal_strconv_uint64pow10) (.tail _ (.tail _ (.head _)))
  obtain rfl := Option.some.inj (gP.symm.trans h1)
  have hty : (Tryz.prog.globals[0]?).map (·.type) = some 233 := by kernel_rfl
  obtain rfl := Option.some.inj (hty.symm.trans h2)
  have e : (Rows.laid_internal_strconv_uint64pow10 : DataW Unit) = Lib.tabData .u64 Lib.pow10Tab := rfl
  rw [e] at h4
  show Lib.TabIs _ _ _ _ _
  unfold Lib.TabIs
  rw [h3, ← Lib.cells_of_tab Tryz.underlying233 Tryz.underlying196 (by kernel_rfl) (by kernel_rfl) h4]

theorem laidOut : laidOutB Tryz.prog = true := by kernel_rfl

set_option maxRecDepth 100000 in
theorem lifted (os : Os) (started : os.Started) (H : Type) (enc : TypeId × Value → H) :
    ReturnsInHanded {} Tryz.checked os 3 .any (fun w args => (Rows.modelFactsSpec.pre enc Tryz.prog Tryz.f3 [] false w args ∧ laidMetH Tryz.prog Rows.modelFactsRow.laid w) ∧ sizedMet enc Tryz.prog Tryz.f3 (OpenSpec.ofChange Rows.modelFactsSpec) false w args)
      (Rows.modelFactsSpec.post enc Tryz.prog Tryz.f3 false true false false) := by
  refine returnsInHanded_of_calls (C := Tryz.checked) Tryz.own started (by kernel_rfl)
    (ChangeSpec.witness_shaped (enc := enc) (C := Tryz.checked) (os := os) (X := fun w _ => laidMetH Tryz.prog Rows.modelFactsRow.laid w) false (World.laidAll Tryz.prog os Rows.modelFactsRow.laid) #[.agg #[.slice none 0 0], .agg #[.slice none 0 0], .slice none 0 0] 8 (World.laidAll_os _ _ _)
      (World.shaped_of_ZipB (by kernel_rfl) (by kernel_rfl)) (by kernel_rfl) (by kernel_rfl) (by kernel_rfl)
      (by rw [MakeChecks.laidMetH_plain _ _ _ (by kernel_rfl)]; exact laidMet_laidAll _ (by kernel_rfl) (by kernel_rfl))) ?_
  intro w tape i _ hsh _ hok hpre _
  obtain ⟨_, _, _, fn', hfn', _, _, _, _, hval0⟩ := hok
  have efn : fn' = Tryz.f3 := Option.some.inj (hfn'.symm.trans Tryz.func3)
  subst efn
  obtain ⟨⟨⟨ds, gs, before, hw, -⟩, hL0⟩, -⟩ := hpre
  have hW := DataW.Whole.of_heap (w' := w.forCall tape i) (by rfl) hw
  have hL : laidMetH Tryz.prog Rows.modelFactsRow.laid (w.forCall tape i) := hL0.of_heap (by rfl)
  generalize w.forCall tape i = W at *
  have hval : ∀ (j : Nat) t v, Tryz.f3.params[j]? = some t → i.args[j]? = some v → Value.okWide Tryz.prog W .any w.heap.size t v := hval0
  have hW' := hW
  obtain ⟨p, q, hA0, hV, rfl, hfz, hnd⟩ := hW
  have hA : DataW.TrodAll enc Tryz.prog W 0 (fun _ => true) true Tryz.f3.params.toList i.args.toList ds p := hA0
  rw [Tryz.params3] at hA hval
  generalize i.args = args at *
  obtain ⟨v0, vs0, d0, ds0, p0, q0, hargs, rfl, rfl, h0, r0⟩ := trodAll_cons hA
  obtain ⟨v1, vs1, d1, ds1, p1, q1, rfl, rfl, rfl, h1, r1⟩ := trodAll_cons r0
  obtain ⟨v2, vs2, d2, ds2, p2, q2, rfl, rfl, rfl, h2, r2⟩ := trodAll_cons r1
  obtain ⟨rfl, rfl, rfl⟩ := trodAll_nil r2
  obtain rfl : args = #[v0, v1, v2] := by cases args; simp_all
  obtain ⟨rfl, rfl⟩ := trodVars_none hV
  obtain ⟨A, n, c, st, rfl, hLA, hFA⟩ := open_model (hval 0 24 v0 rfl rfl) h0
  obtain ⟨B, m, d, st', rfl, hLB, hFB⟩ := open_model (hval 1 24 v1 rfl rfl) h1
  obtain ⟨L, k, e, f, rfl, hLL⟩ := open_ints1 (hval 2 25 v2 rfl rfl) h2
  clear hA0 hval0
  rw [MakeChecks.laidMetH_plain _ _ _ (by kernel_rfl)] at hL
  refine (facts_any A n c B m d L k e st st' f W hLA hLB hLL hFA hFB (tab_of_laid hL)).mono fun e W' ⟨he, hb⟩ => ?_
  subst he
  exact ChangeSpec.post_blind (post_of_stays laidOut (by kernel_rfl) rfl hW' (fun _ _ _ => (trodAll_cons_mk (shut_bool Tryz.underlying4 _) trodAll_mk0)) rfl rfl hb (ok_one (by kernel_rfl) rfl (okWide_bool_mk Tryz.underlying4 _)))

/-- The row. -/
theorem row_holds : Rows.ModelFactsSaid :=
  OpenClaim.holds_of_wide 3 Tryz.f3 rfl rfl rfl rfl rfl rfl rfl ⟨rfl, rfl, rfl, rfl, rfl⟩ rfl rfl rfl rfl rfl (by kernel_rfl) Tryz.func3 (by kernel_rfl)
    (of_decide_eq_true (by kernel_rfl)) (by unfold Func.isWrapper; first | (rw [if_pos (by decide +kernel)]; kernel_rfl) | (rw [if_neg (by decide +kernel)]; exact ⟨rfl, rfl⟩))
    (fun os started H enc _ => lifted os started H enc)

end Go.Proofs.YtabaknkjcoibpaaGreatDoor.lawFacts
