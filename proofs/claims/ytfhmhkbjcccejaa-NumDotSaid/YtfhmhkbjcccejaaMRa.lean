/- Plain facts on numbers that are written as lists of digits to the base 2^30, the least significant one first. Lists of digits of the reference in memory. The order of two lists of digits of the reference; digits 0 at the end. Sums and differences of lists of digits of the reference. Differences and multiples of lists of digits of the reference. Lists of digits of the reference that are written in place; division by a digit. Integers of the reference in memory: those that do not make lists. Integers of the reference in memory: their opposites, their small values, their digits. Integers of the reference in memory: out of digits. Integers of the reference in memory: their digits; ints as integers. Ints as integers of the reference in memory. -/
import Derived.Test.YtfhmhkbjcccejaaMInt1
import Derived.Laws.AppendOwn
import Derived.IntWalk
import Derived.LoopTactic
import Derived.Deep.CutRange
import Derived.Deep.CutBlock
import Derived.Deep.DeepCutAuto
import Derived.Test.YtfhmhkbjcccejaaMPa

namespace Go.Proofs.Ytfhmhkbjcccejaa

/-- The base of the digits. -/
def Bs : Nat := 1073741824
theorem Bs_eq : Bs = 1073741824 := rfl
theorem Bs_pos : 0 < Bs := by decide
theorem Bs_pow_pos (n : Nat) : 0 < Bs ^ n := Nat.pow_pos Bs_pos

/-- The number that a list of digits stands for. -/
def val : List Nat → Nat
  | [] => 0
  | d :: l => d + Bs * val l
/-- All are digits. -/
def Dl (l : List Nat) : Prop := ∀ d ∈ l, d < Bs
/-- There is no digit 0 at the end. -/
def Nz (l : List Nat) : Prop := l = [] ∨ l.getD (l.length - 1) 0 ≠ 0

theorem val_nil : val [] = 0 := rfl
theorem val_append (l m : List Nat) : val (l ++ m) = val l + Bs ^ l.length * val m := by
  induction l with
  | nil => simp [val]
  | cons d l ih =>
    simp only [List.cons_append, val, ih, List.length_cons, Nat.pow_succ, Nat.mul_add]
    rw [← Nat.mul_assoc, Nat.mul_comm Bs (Bs ^ l.length), Nat.add_assoc]
theorem val_one (d : Nat) : val [d] = d := by simp [val]
theorem val_snoc (l : List Nat) (d : Nat) : val (l ++ [d]) = val l + Bs ^ l.length * d := by rw [val_append, val_one]
theorem val_lt {l : List Nat} (h : Dl l) : val l < Bs ^ l.length := by
  induction l with
  | nil => simp [val]
  | cons d l ih =>
    have h1 := ih (fun x hx => h x (List.mem_cons_of_mem _ hx))
    have h2 := h d List.mem_cons_self
    simp only [val, List.length_cons, Nat.pow_succ]
    have h3 : Bs * (val l + 1) ≤ Bs ^ l.length * Bs := by rw [Nat.mul_comm]; exact Nat.mul_le_mul_right _ h1
    rw [Nat.mul_add] at h3
    omega
theorem Dl.nil : Dl [] := fun _ h => by cases h
theorem Dl.snoc {l : List Nat} (h : Dl l) {d : Nat} (hd : d < Bs) : Dl (l ++ [d]) := fun x hx => by
  rcases List.mem_append.1 hx with hx | hx
  · exact h x hx
  · rw [List.mem_singleton.1 hx]; exact hd
theorem Dl.app {l m : List Nat} (h : Dl l) (h' : Dl m) : Dl (l ++ m) := fun x hx => by
  rcases List.mem_append.1 hx with hx | hx
  · exact h x hx
  · exact h' x hx
theorem Dl.take {l : List Nat} (h : Dl l) (k : Nat) : Dl (l.take k) := fun x hx => h x (List.mem_of_mem_take hx)
theorem Dl.drop {l : List Nat} (h : Dl l) (k : Nat) : Dl (l.drop k) := fun x hx => h x (List.mem_of_mem_drop hx)
theorem Dl.getD {l : List Nat} (h : Dl l) (k : Nat) : l.getD k 0 < Bs := by
  by_cases hk : k < l.length
  · simp only [List.getD_eq_getElem?_getD, List.getElem?_eq_getElem hk, Option.getD_some]
    exact h _ (List.getElem_mem hk)
  · simp only [List.getD_eq_getElem?_getD, List.getElem?_eq_none (by omega : l.length ≤ k), Option.getD_none]
    exact Bs_pos
theorem getD_out {l : List Nat} {k : Nat} (h : l.length ≤ k) : l.getD k 0 = 0 := by
  simp only [List.getD_eq_getElem?_getD, List.getElem?_eq_none h, Option.getD_none]
theorem getD_take {l : List Nat} {k i : Nat} (h : i < k) : (l.take k).getD i 0 = l.getD i 0 := by
  simp only [List.getD_eq_getElem?_getD, List.getElem?_take, h, if_true]
theorem getD_drop (l : List Nat) (k i : Nat) : (l.drop k).getD i 0 = l.getD (k + i) 0 := by
  simp only [List.getD_eq_getElem?_getD, List.getElem?_drop]
theorem getD_snoc_old {l : List Nat} {d k : Nat} (h : k < l.length) : (l ++ [d]).getD k 0 = l.getD k 0 := by
  simp only [List.getD_eq_getElem?_getD, List.getElem?_append_left h]
theorem getD_snoc_new (l : List Nat) (d : Nat) : (l ++ [d]).getD l.length 0 = d := by
  simp [List.getD_eq_getElem?_getD]

theorem take_snoc {l : List Nat} {k : Nat} (h : k < l.length) : l.take (k + 1) = l.take k ++ [l.getD k 0] := by
  rw [List.take_add_one, List.getElem?_eq_getElem h, List.getD_eq_getElem?_getD, List.getElem?_eq_getElem h]
  rfl
theorem val_take_succ (l : List Nat) (k : Nat) : val (l.take (k + 1)) = val (l.take k) + Bs ^ k * l.getD k 0 := by
  by_cases h : k < l.length
  · rw [take_snoc h, val_snoc, List.length_take, Nat.min_eq_left (by omega)]
  · rw [List.take_of_length_le (by omega), List.take_of_length_le (by omega), getD_out (by omega)]
    simp
theorem val_take_all {l : List Nat} {k : Nat} (h : l.length ≤ k) : val (l.take k) = val l := by rw [List.take_of_length_le h]
theorem val_split (l : List Nat) {k : Nat} (h : k ≤ l.length) : val l = val (l.take k) + Bs ^ k * val (l.drop k) := by
  conv => lhs; rw [← List.take_append_drop k l]
  rw [val_append, List.length_take, Nat.min_eq_left h]
theorem drop_cons {l : List Nat} {k : Nat} (h : k < l.length) : l.drop k = l.getD k 0 :: l.drop (k + 1) := by
  rw [List.drop_eq_getElem_cons h, List.getD_eq_getElem?_getD, List.getElem?_eq_getElem h]
  rfl
theorem val_drop {l : List Nat} {k : Nat} (h : k < l.length) : val (l.drop k) = l.getD k 0 + Bs * val (l.drop (k + 1)) := by
  rw [drop_cons h]
  rfl

theorem Nz_ge {l : List Nat} (h : Nz l) (hl : l ≠ []) : Bs ^ (l.length - 1) ≤ val l := by
  have h0 : 0 < l.length := List.length_pos_iff.2 hl
  have hd := h.resolve_left hl
  rw [val_split l (k := l.length - 1) (by omega), val_drop (by omega)]
  have : Bs ^ (l.length - 1) * 1 ≤ Bs ^ (l.length - 1) * (l.getD (l.length - 1) 0 + Bs * val (l.drop (l.length - 1 + 1))) := Nat.mul_le_mul_left _ (by omega)
  omega
theorem val_zero {l : List Nat} (h : Nz l) : val l = 0 ↔ l = [] := by
  refine ⟨fun h0 => ?_, fun h0 => by rw [h0]; rfl⟩
  rcases List.eq_nil_or_concat l with h1 | ⟨_, _, h1⟩
  · exact h1
  · have := Nz_ge h (by rw [h1]; simp)
    have h2 := Bs_pow_pos (l.length - 1)
    omega
theorem lt_of_len {a b : List Nat} (ha : Dl a) (hb : Nz b) (h : a.length < b.length) : val a < val b := by
  have h1 := val_lt ha
  have h2 := Nz_ge hb (by intro e; rw [e] at h; simp at h)
  have h3 : Bs ^ a.length ≤ Bs ^ (b.length - 1) := Nat.pow_le_pow_right Bs_pos (by omega)
  omega
theorem lt_of_top {a b : List Nat} (ha : Dl a) (hl : a.length = b.length) {i : Nat} (hi : i < a.length) (hd : a.drop (i + 1) = b.drop (i + 1)) (hlt : a.getD i 0 < b.getD i 0) : val a < val b := by
  have hi' : i < b.length := by omega
  rw [val_split a (k := i) (by omega), val_split b (k := i) (by omega), val_drop (l := a) (k := i) hi, val_drop (l := b) (k := i) hi', hd]
  have h1 := val_lt (ha.take i)
  rw [List.length_take, Nat.min_eq_left (by omega)] at h1
  have h2 : Bs ^ i * (a.getD i 0 + Bs * val (b.drop (i + 1)) + 1) ≤ Bs ^ i * (b.getD i 0 + Bs * val (b.drop (i + 1))) := Nat.mul_le_mul_left _ (by omega)
  rw [Nat.mul_add, Nat.mul_one] at h2
  omega
theorem drop_step {a b : List Nat} {i : Nat} (hi : i < a.length) (hl : a.length = b.length) (hd : a.drop (i + 1) = b.drop (i + 1)) (he : a.getD i 0 = b.getD i 0) : a.drop i = b.drop i := by
  have hi' : i < b.length := by omega
  rw [drop_cons (l := a) (k := i) hi, drop_cons (l := b) (k := i) hi', hd, he]

/-- -1, 0 or 1. -/
def cmpN (x y : Nat) : Int := if x < y then -1 else if y < x then 1 else 0
theorem cmpN_lt {x y : Nat} (h : x < y) : cmpN x y = -1 := if_pos h
theorem cmpN_gt {x y : Nat} (h : y < x) : cmpN x y = 1 := by unfold cmpN; rw [if_neg (by omega), if_pos h]
theorem cmpN_eq (x : Nat) : cmpN x x = 0 := by simp [cmpN]

theorem len_le {l : List Nat} (h : Nz l) {k : Nat} (hx : val l < Bs ^ k) : l.length ≤ k := by
  rcases List.eq_nil_or_concat l with h1 | ⟨_, _, h1⟩
  · rw [h1]; simp
  · have h2 := Nz_ge h (by rw [h1]; simp)
    have h3 : Bs ^ (l.length - 1) < Bs ^ k := Nat.lt_of_le_of_lt h2 hx
    have h4 := (Nat.pow_lt_pow_iff_right (by decide : 1 < Bs)).1 h3
    omega

end Go.Proofs.Ytfhmhkbjcccejaa

namespace Go.Proofs.Ytfhmhkbjcccejaa
open Go.RowKit

/-- The slice at A holds the digits l; its memory is of ints. -/
def Lc (w : World) (A : Option Addr) (l : List Nat) : Prop :=
  0 < l.length → ∃ b off, A = some ⟨b, off, none⟩ ∧ Bx w b 3 ∧ ∀ i, i < l.length → w.cell? ⟨b, off + i, none⟩ = some (.int .i64 ((l.getD i 0 : Nat) : Int))
theorem Bx.lt {w : World} {b T : Nat} (h : Bx w b T) : b < w.heap.size := by
  obtain ⟨cs, fr, hc⟩ := h
  exact lt_of_heap hc
theorem Lc.keep {w w' : World} {A : Option Addr} {l : List Nat} (h : Lc w A l) (hb : Below w.heap.size w w') : Lc w' A l := by
  intro hn
  obtain ⟨b, off, hA, hx, hc⟩ := h hn
  exact ⟨b, off, hA, hx.keep hb, fun i hi => (hb.cell (p := ⟨b, off + i, none⟩) hx.lt).trans (hc i hi)⟩
theorem Lc.drew {w : World} {A : Option Addr} {l : List Nat} (h : Lc w A l) : Lc w.drew A l := h
theorem Lc.nil (w : World) (A : Option Addr) : Lc w A [] := fun h => by simp at h
theorem Lc.take {w : World} {A : Option Addr} {l : List Nat} (h : Lc w A l) (k : Nat) : Lc w A (l.take k) := by
  intro hn
  rw [List.length_take] at hn
  obtain ⟨b, off, hA, hx, hc⟩ := h (by omega)
  refine ⟨b, off, hA, hx, fun i hi => ?_⟩
  rw [List.length_take] at hi
  rw [getD_take (by omega)]
  exact hc i (by omega)
/-- A store into memory of another type leaves the digits alone. -/
theorem Lc.set {w : World} {A : Option Addr} {l : List Nat} (h : Lc w A l) {k T : Nat} (hb : Bx w k T) (hT : T ≠ 3) (o : Nat) (u : Value) : Lc (w.setCell ⟨k, o, none⟩ u) A l := by
  intro hn
  obtain ⟨b, off, hA, hx, hc⟩ := h hn
  have hne : b ≠ k := by
    rintro rfl
    obtain ⟨cs, fr, h1⟩ := hx
    obtain ⟨cs', fr', h2⟩ := hb
    rw [h1] at h2
    injection h2 with h2
    injection h2 with _ h2
    exact hT h2.symm
  have e : (w.setCell ⟨k, o, none⟩ u).heap[b]? = w.heap[b]? := Below.heap_setCell _ _ _ _ hne
  exact ⟨b, off, hA, hx.set _ _ _, fun i hi => (World.cell?_of_block (w := w) (a := ⟨b, off + i, none⟩) e).trans (hc i hi)⟩

/-- The slice value v holds the digits l. -/
def Ls (w : World) (v : Value) (l : List Nat) : Prop := ∃ A c, v = .slice A l.length c ∧ (l.length ≤ c ∧ c ≤ 9223372036854775807) ∧ Dl l ∧ Lc w A l
theorem Ls.keep {w w' : World} {v : Value} {l : List Nat} (h : Ls w v l) (hb : Below w.heap.size w w') : Ls w' v l := by
  obtain ⟨A, c, h1, h2, h3, h4⟩ := h
  exact ⟨A, c, h1, h2, h3, h4.keep hb⟩
theorem Ls.set {w : World} {v : Value} {l : List Nat} (h : Ls w v l) {k T : Nat} (hb : Bx w k T) (hT : T ≠ 3) (o : Nat) (u : Value) : Ls (w.setCell ⟨k, o, none⟩ u) v l := by
  obtain ⟨A, c, h1, h2, h3, h4⟩ := h
  exact ⟨A, c, h1, h2, h3, h4.set hb hT o u⟩

/-- What a function returns that makes a list: one of which P holds. -/
def RetL (P : List Nat → Prop) (w : World) (e : Ending) (w' : World) : Prop := ∃ v l, e = .returned v ∧ Ls w' v l ∧ P l ∧ Below w.heap.size w w'

/-- A list that grows by append, in memory from block B on. -/
def Own (w : World) (B : Nat) (v : Value) (l : List Nat) : Prop := w.ownsRow B 3 1 v l.length (l.map fun (d : Nat) => .int .i64 (d : Int))
theorem Own.nil (w : World) (B : Nat) : Own w B (.slice none 0 0) [] := World.ownsRow_nil w B 3 1
theorem Own.alloc {w : World} {B : Nat} {v : Value} {l : List Nat} (h : Own w B v l) (o : Obj) : Own (w.alloc o) B v l := World.ownsRow.alloc h o
theorem Own.ls {w : World} {B : Nat} {v : Value} {l : List Nat} (h : Own w B v l) (hd : Dl l) : Ls w v l := by
  have h0 := h
  rcases h.2 with ⟨rfl, hn⟩ | ⟨g, cap, cur, rfl, _, hg, hcap, hcm, _⟩
  · have : l = [] := List.eq_nil_of_length_eq_zero hn
    subst this
    exact ⟨none, 0, rfl, ⟨Nat.le_refl _, Nat.zero_le _⟩, hd, Lc.nil w _⟩
  · refine ⟨some ⟨g, 0, none⟩, cap, rfl, ⟨hcap, by unfold maxLen at hcm; omega⟩, hd, fun hn => ⟨g, 0, rfl, ⟨cur, (0, 0), hg⟩, fun i hi => ?_⟩⟩
    have hc := World.ownsRow.cells h0 (g := g) rfl i (.int .i64 ((l.getD i 0 : Nat) : Int)) (by
      simp [List.getElem?_map, List.getD_eq_getElem?_getD, List.getElem?_eq_getElem hi])
    have hadd : (⟨g, 0, none⟩ : Addr).add i = ⟨g, 0 + i, none⟩ := by unfold Addr.add; split <;> simp_all
    rw [hadd] at hc
    exact hc

theorem cell_new (w : World) (u : Value) (T : Nat) : (w.alloc (.cells #[u] T)).cell? ⟨w.heap.size, 0, none⟩ = some u := by simp [go_sem]
theorem int_eq {k : IntKind} {a b : Int} (h : a = b) : Value.int k a = .int k b := by rw [h]

theorem info3 : (Try.prog.info? 3).map (fun i => (i.zero, i.size, i.bytes)) = some (some (.int .i64 0), 1, 8) := by kernel_rfl

set_option maxRecDepth 100000 in
/-- out = append(out, x). -/
theorem wpList_push {ops : Array Oper} {rest : List Oper} {o : Oper} {a : Act} {w : World} {Q : Exit → Act → World → Prop} (hgd : o.guard = none) (s x : Operand)
    (ho : o.op = .call { callee := .builtin .append, args := #[s, x], argTypes := #[34, 34] })
    (B : Nat) (v : Value) (l : List Nat) (hs : a.eval s = v) (hown : Own w B v l) (g : Nat) (hx : a.eval x = .slice (some ⟨g, 0, none⟩) 1 1) (X : Int) (hc : w.cell? ⟨g, 0, none⟩ = some (.int .i64 X)) (d : Nat) (hX : X = (d : Int))
    (hl : l.length ≤ 1000000) (hB : B ≤ w.heap.size)
    (h : ∀ v' w', Own w' B v' (l ++ [d]) → (∀ X0 : World, Below B X0 w → Below B X0 w') → wpList Try.prog ops Q rest (a.put o.dst v') w') : wpList Try.prog ops Q (o :: rest) a w := by
  obtain ⟨i0, hi, hz0, hz1, hz2⟩ := info_parts info3
  refine wpList_append_own w hgd s x 34 ho B 3 i0 (.int .i64 0) 1 8 Try.underlying34 hi hz0 hz1 hz2 rfl (by decide) v l.length _ hs hown ⟨g, 0, none⟩ 1 1 [.int .i64 (d : Int)] hx rfl ?_ ?_ ?_ ?_ hB ?_
  · intro j u hj
    match j, hj with
    | 0, hj =>
      simp at hj
      subst hj
      rw [← hX]
      simpa [Addr.add] using hc
  · intro u hu
    simp at hu
    subst hu
    rfl
  · unfold maxLen; omega
  · omega
  · intro v' w' h1 h2 _
    refine h v' w' ?_ (fun X0 hX0 => Below.grown hX0 h2 hB (fun k hk => (World.ownsRow.lt hown k hk).1))
    unfold Own
    rw [List.length_append, List.map_append]
    exact h1

end Go.Proofs.Ytfhmhkbjcccejaa

namespace Go.Proofs.Ytfhmhkbjcccejaa
open Go.RowKit

theorem Drn.lc {w w' : World} (h : Drn w w') {A : Option Addr} {l : List Nat} (hd : Lc w A l) : Lc w' A l := by obtain ⟨q, rfl⟩ := h; exact hd
theorem Drn.ls {w w' : World} (h : Drn w w') {v : Value} {l : List Nat} (hd : Ls w v l) : Ls w' v l := by obtain ⟨q, rfl⟩ := h; exact hd

theorem rtrim_any (A : Option Addr) (c : Nat) (l : List Nat) (w : World) (hn : l.length ≤ c) (hc : c ≤ 9223372036854775807) (hA : Lc w A l) :
    Calls Try.prog 100 #[.slice A l.length c] w fun e w' => ∃ k, e = .returned (.slice A k c) ∧ k ≤ l.length ∧ Nz (l.take k) ∧ val (l.take k) = val l ∧ w = w' := by
  obtain ⟨n, hln⟩ : ∃ n, l.length = n := ⟨_, rfl⟩
  have HL := Lib.hid hln
  rw [hln] at hn ⊢
  clear hln
  go_enter Try.func100, Try.ntmps100
  go_wp2
  go_loop [0] (fun s => ∃ k : Nat, k ≤ n ∧ s = .slice A k c ∧ Hid (val (l.take k) = val l)) (fun s => slen s)
  case atStart => exact ⟨n, Nat.le_refl _, rfl, by rw [← HL.out]; exact val_take_all (Nat.le_refl _)⟩
  case round =>
    obtain ⟨k, hk, rfl, hv⟩ := hrel
    rcases Nat.eq_zero_or_pos k with h0 | h0
    · subst h0
      go_wp2
      go_ret
      exact ⟨0, rfl, hk, Or.inl rfl, hv.out, rfl⟩
    · obtain ⟨b, off, hA', hb, hcell⟩ := hA (by rw [HL.out]; omega)
      subst hA'
      have hcell1 := hcell (k - 1) (by rw [HL.out]; omega)
      clear hcell
      obtain ⟨x, hx⟩ : ∃ x, l.getD (k - 1) 0 = x := ⟨_, rfl⟩
      rw [hx] at hcell1
      have HX := Lib.hid hx
      clear hx
      by_cases hz : x = 0
      · have hv2 : Hid (val (l.take (k - 1)) = val l) := by
          have := hv.out
          obtain ⟨m, rfl⟩ : ∃ m, k = m + 1 := ⟨k - 1, by omega⟩
          rw [val_take_succ] at this
          have h2 := HX.out
          simp only [Nat.add_sub_cancel] at h2 ⊢
          rw [h2, hz] at this
          show val (l.take m) = val l
          simpa using this
        subst hz
        go_wp2
        exact ⟨⟨k - 1, by omega, rfl, hv2⟩, by simp [slen]; omega⟩
      · have hz2 : ((x : Int) == 0) = false := by simpa using hz
        have HZ := Lib.hid hz
        clear hz
        go_wp2
        go_ret
        refine ⟨k, rfl, hk, Or.inr ?_, hv.out, rfl⟩
        rw [List.length_take, Nat.min_eq_left (by rw [HL.out]; exact hk), getD_take (by omega), HX.out]
        exact HZ.out

set_option maxRecDepth 100000 in
set_option maxHeartbeats 1000000 in
theorem rcmp_same (A B : Option Addr) (n ca cb : Nat) (la lb : List Nat) (w : World) (hn : n ≤ 1000000) (hla : la.length = n) (hlb : lb.length = n) (hA : Lc w A la) (hB : Lc w B lb) (ha : Dl la) (hb : Dl lb) :
    Calls Try.prog 94 #[.slice A n ca, .slice B n cb] w fun e w' => e = .returned (.int .i64 (cmpN (val la) (val lb))) ∧ Drn w w' := by
  have HLA := Lib.hid hla
  have HLB := Lib.hid hlb
  have HDA := Lib.hid ha
  have HDB := Lib.hid hb
  clear hla hlb ha hb
  go_enter Try.func94, Try.ntmps94
  go_wp2_with fail
  go_loopw [5] (fun i wr => ∃ k : Nat, k ≤ n ∧ i = .int .i64 ((k : Int) - 1) ∧ Hid (la.drop k = lb.drop k) ∧ Drn w wr) (fun i _ => (intOf i + 1).toNat)
  case atStart => exact ⟨n, Nat.le_refl _, rfl, by show la.drop n = lb.drop n; rw [List.drop_of_length_le (by rw [HLA.out]; omega), List.drop_of_length_le (by rw [HLB.out]; omega)], Drn.refl w⟩
  case round =>
    obtain ⟨k, hk, rfl, hs, hq⟩ := hrel
    rcases Nat.eq_zero_or_pos k with h0 | h0
    · subst h0
      have HE : Hid (cmpN (val la) (val lb) = 0) := by
        have : la = lb := hs.out
        rw [this]; exact cmpN_eq _
      rw [show (((0 : Nat) : Int) - 1) = -1 from rfl]
      go_wp2_with fail
      go_ret
      exact ⟨by rw [HE.out]; rfl, hq⟩
    · obtain ⟨b, off, rfl, hb, hcells⟩ := hA (by rw [HLA.out]; omega)
      obtain ⟨b', off', rfl, hb', hcells'⟩ := hB (by rw [HLB.out]; omega)
      obtain ⟨j, rfl⟩ : ∃ j, k = j + 1 := ⟨k - 1, by omega⟩
      have hc1 := (hq.cell ⟨b, off + j, none⟩).trans (hcells j (by rw [HLA.out]; omega))
      have hc2 := (hq.cell ⟨b', off' + j, none⟩).trans (hcells' j (by rw [HLB.out]; omega))
      have hjn : (j : Int) < (n : Int) := by omega
      clear hcells hcells'
      have ej : (((j + 1 : Nat) : Int) - 1) = (j : Int) := by omega
      rw [ej]
      clear ej h0
      obtain ⟨x, hx⟩ : ∃ x, la.getD j 0 = x := ⟨_, rfl⟩
      obtain ⟨y, hy⟩ : ∃ y, lb.getD j 0 = y := ⟨_, rfl⟩
      rw [hx] at hc1
      rw [hy] at hc2
      have HX := Lib.hid hx
      have HY := Lib.hid hy
      clear hx hy
      rcases Nat.lt_trichotomy x y with h | h | h
      · have HE : Hid (cmpN (val la) (val lb) = -1) := cmpN_lt (lt_of_top HDA.out (by rw [HLA.out, HLB.out]) (by rw [HLA.out]; omega) hs.out (by rw [HX.out, HY.out]; exact h))
        have hd : decide ((x : Int) < (y : Int)) = true := decide_eq_true (by omega)
        go_wp2_with fail
        go_quiet (fail)
        go_wp2_with fail
        go_ret
        exact ⟨by rw [HE.out]; rfl, hq.more _⟩
      · subst h
        have hs2 : Hid (la.drop j = lb.drop j) := drop_step (by rw [HLA.out]; omega) (by rw [HLA.out, HLB.out]) hs.out (by rw [HX.out, HY.out])
        go_wp2_with fail
        go_quiet (fail)
        go_wp2_with fail
        go_quiet (fail)
        go_wp2_with fail
        exact ⟨⟨j, by omega, rfl, hs2, (by first | exact hq.more _ | exact (hq.more _).more _)⟩, by simp [intOf]⟩
      · have HE : Hid (cmpN (val la) (val lb) = 1) := cmpN_gt (lt_of_top (a := lb) (b := la) HDB.out (by rw [HLA.out, HLB.out]) (by rw [HLB.out]; omega) hs.out.symm (by rw [HX.out, HY.out]; exact h))
        have hd : ¬ (x : Int) < (y : Int) := by omega
        go_wp2_with fail
        go_quiet (fail)
        go_wp2_with fail
        go_quiet (fail)
        go_wp2_with fail
        go_ret
        exact ⟨by rw [HE.out]; rfl, (by first | exact hq.more _ | exact (hq.more _).more _)⟩

set_option maxRecDepth 100000 in
theorem rcmp_any (A B : Option Addr) (n m ca cb : Nat) (la lb : List Nat) (w : World) (hn : n ≤ 1000000) (hla : la.length = n) (hlb : lb.length = m) (hA : Lc w A la) (hB : Lc w B lb) (ha : Dl la) (hb : Dl lb) (hna : Nz la) (hnb : Nz lb) :
    Calls Try.prog 94 #[.slice A n ca, .slice B m cb] w fun e w' => e = .returned (.int .i64 (cmpN (val la) (val lb))) ∧ Drn w w' := by
  rcases Nat.lt_trichotomy n m with h | h | h
  · have HE : Hid (cmpN (val la) (val lb) = -1) := cmpN_lt (lt_of_len ha hnb (by omega))
    have h2 : ((n : Int) != (m : Int)) = true := by rw [bne_iff_ne]; omega
    rw [HE.out]
    clear HE ha hb hna hnb hA hB hla hlb
    go_enter Try.func94, Try.ntmps94
    go_wp2_with fail
    go_ret
    exact ⟨rfl, Drn.refl w⟩
  · subst h
    exact rcmp_same A B n ca cb la lb w hn hla hlb hA hB ha hb
  · have HE : Hid (cmpN (val la) (val lb) = 1) := cmpN_gt (lt_of_len hb hna (by omega))
    have h2 : ((n : Int) != (m : Int)) = true := by rw [bne_iff_ne]; omega
    rw [HE.out]
    clear HE ha hb hna hnb hA hB hla hlb
    go_enter Try.func94, Try.ntmps94
    go_wp2_with fail
    go_ret
    exact ⟨rfl, Drn.refl w⟩

end Go.Proofs.Ytfhmhkbjcccejaa

namespace Go.Proofs.Ytfhmhkbjcccejaa
open Go.RowKit

/-- What has been added after k digits. -/
def SumR (w : World) (la lb : List Nat) (o : Value) (c i : Value) (wr : World) : Prop :=
  ∃ (k r : Nat) (l : List Nat), k ≤ max la.length lb.length + 1 ∧ (k = max la.length lb.length + 1 → r = 0) ∧ i = .int .i64 (k : Int) ∧ c = .int .i64 (r : Int) ∧ r ≤ 1 ∧ Own wr w.heap.size o l ∧ Dl l ∧ l.length = k ∧
    val l + Bs ^ k * r = val (la.take k) + val (lb.take k) ∧ Below w.heap.size w wr

theorem sum_step {la lb l : List Nat} {k r : Nat} (ha : Dl la) (hb : Dl lb) (hr : r ≤ 1) (hl : l.length = k) (hv : val l + Bs ^ k * r = val (la.take k) + val (lb.take k)) :
    (r + la.getD k 0 + lb.getD k 0) / Bs ≤ 1 ∧ (r + la.getD k 0 + lb.getD k 0) % Bs < Bs ∧ val (l ++ [(r + la.getD k 0 + lb.getD k 0) % Bs]) + Bs ^ (k + 1) * ((r + la.getD k 0 + lb.getD k 0) / Bs) = val (la.take (k + 1)) + val (lb.take (k + 1)) := by
  have h1 := ha.getD k
  have h2 := hb.getD k
  rw [val_snoc, hl, val_take_succ, val_take_succ]
  generalize la.getD k 0 = x at h1
  generalize lb.getD k 0 = y at h2
  have h3 := Nat.div_add_mod (r + x + y) Bs
  refine ⟨?_, Nat.mod_lt _ Bs_pos, ?_⟩
  · rw [Bs_eq] at *; omega
  · rw [Nat.pow_succ, Nat.mul_assoc, Nat.add_assoc, ← Nat.mul_add, Nat.add_comm (_ % _), h3, Nat.mul_add, Nat.mul_add]
    omega

theorem SumR.start (w : World) (la lb : List Nat) : SumR w la lb (.slice none 0 0) (.int .i64 0) (.int .i64 0) w :=
  ⟨0, 0, [], Nat.zero_le _, fun _ => rfl, rfl, rfl, by omega, Own.nil w _, Dl.nil, rfl, by simp [val], Below.refl _ _⟩
theorem SumR.next {w w' : World} {la lb l : List Nat} {k r : Nat} {o c i : Value} {C I : Int} (ha : Dl la) (hb : Dl lb) (hr : r ≤ 1) (hl : l.length = k) (hd : Dl l) (hv : val l + Bs ^ k * r = val (la.take k) + val (lb.take k)) (hbel : Below w.heap.size w w')
    (hk : k < max la.length lb.length + 1) (hex : k < la.length ∨ k < lb.length ∨ 0 < r)
    (hown : Own w' w.heap.size o (l ++ [(r + la.getD k 0 + lb.getD k 0) % Bs])) (hc : c = .int .i64 C) (hC : C = (((r + la.getD k 0 + lb.getD k 0) / Bs : Nat) : Int)) (hi : i = .int .i64 I) (hI : I = ((k + 1 : Nat) : Int)) : SumR w la lb o c i w' := by
  subst hc hC hi hI
  obtain ⟨h1, h2, h3⟩ := sum_step ha hb hr hl hv
  refine ⟨k + 1, _, _, by omega, fun e => ?_, rfl, rfl, h1, hown, hd.snoc h2, by simp [hl], h3, hbel⟩
  have e1 : la.length ≤ k := by omega
  have e2 : lb.length ≤ k := by omega
  rw [getD_out e1, getD_out e2, Bs_eq]
  omega

set_option maxRecDepth 100000 in
set_option maxHeartbeats 2000000 in
theorem sum_any (A B : Option Addr) (n m ca cb : Nat) (la lb : List Nat) (w : World) (hn : n ≤ 300000) (hm : m ≤ 300000) (hla : la.length = n) (hlb : lb.length = m) (hA : Lc w A la) (hB : Lc w B lb) (ha : Dl la) (hb : Dl lb) :
    Calls Try.prog 93 #[.slice A n ca, .slice B m cb] w (RetL (fun l => val l = val la + val lb) w) := by
  have HLA := Lib.hid hla
  have HLB := Lib.hid hlb
  have HDA := Lib.hid ha
  have HDB := Lib.hid hb
  clear hla hlb ha hb
  go_enter Try.func93, Try.ntmps93
  go_wp2_with fail
  go_loopw [5, 6, 7] (fun o c i wr => SumR w la lb o c i wr) (fun _ _ i _ => n + m + 2 - (intOf i).toNat)
  case atStart => exact SumR.start w la lb
  case round =>
    obtain ⟨k, r, l, hk, hk0, rfl, rfl, hr, hown, hd, hl, hv, hbel⟩ := hrel
    have hkm : k ≤ n + m + 1 := by rw [HLA.out, HLB.out] at hk; omega
    have hmk : Hid (k < n ∨ k < m ∨ 0 < r → k < max la.length lb.length + 1) := fun h => by
      have h1 := HLA.out
      have h2 := HLB.out
      rcases Nat.lt_or_ge k (max la.length lb.length + 1) with h' | h'
      · exact h'
      · have := hk0 (by omega)
        omega
    have hll : l.length ≤ 1000000 := by omega
    have hsz := hbel.size
    have HBL := Lib.hid hbel
    have HV := Lib.hid hv
    have HD := Lib.hid hd
    have HL := Lib.hid hl
    have HK := Lib.hid hk
    clear hk hk0 hbel hv hd hl
    obtain ⟨x, hx⟩ : ∃ x, la.getD k 0 = x := ⟨_, rfl⟩
    obtain ⟨y, hy⟩ : ∃ y, lb.getD k 0 = y := ⟨_, rfl⟩
    have hx1 : x < 1073741824 := by have := HDA.out.getD k; rw [Bs_eq] at this; omega
    have hy1 : y < 1073741824 := by have := HDB.out.getD k; rw [Bs_eq] at this; omega
    have HX := Lib.hid hx
    have HY := Lib.hid hy
    clear hx hy
    by_cases h1 : k < n
    · by_cases h2 : k < m
      · obtain ⟨b, off, rfl, -, hcells⟩ := hA.keep HBL.out (by rw [HLA.out]; omega)
        have c1 := hcells k (by rw [HLA.out]; exact h1)
        clear hcells
        rw [HX.out] at c1
        obtain ⟨b', off', rfl, -, hcells⟩ := hB.keep HBL.out (by rw [HLB.out]; omega)
        have c2 := hcells k (by rw [HLB.out]; exact h2)
        clear hcells
        rw [HY.out] at c2
        go_wp2_with (at_builtin; refine wpList_push rfl _ _ rfl w.heap.size _ l rfl (hown.alloc _) wr.heap.size rfl _ (cell_new _ _ _) ((r + x + y) % Bs) (by rw [Bs_eq]; omega) hll (by simp; omega) (fun v' w' hown' hkeep => ?_))
        have HO := Lib.hid hown'
        have HKp := Lib.hid (hkeep w (HBL.out.alloc hsz _))
        clear hown' hkeep
        go_wp2_with fail
        go_roundw
        case rel => exact SumR.next HDA.out HDB.out hr HL.out HD.out HV.out HKp.out (hmk.out (by omega)) (by rw [HLA.out, HLB.out]; omega) (by rw [HX.out, HY.out]; exact HO.out) rfl (by rw [HX.out, HY.out, Bs_eq]; omega) rfl (by omega)
        case measure => simp [intOf]; omega
      · obtain ⟨b, off, rfl, -, hcells⟩ := hA.keep HBL.out (by rw [HLA.out]; omega)
        have c1 := hcells k (by rw [HLA.out]; exact h1)
        clear hcells
        rw [HX.out] at c1
        obtain rfl : y = 0 := by rw [← HY.out]; exact getD_out (by rw [HLB.out]; omega)
        go_wp2_with (at_builtin; refine wpList_push rfl _ _ rfl w.heap.size _ l rfl (hown.alloc _) wr.heap.size rfl _ (cell_new _ _ _) ((r + x + 0) % Bs) (by rw [Bs_eq]; omega) hll (by simp; omega) (fun v' w' hown' hkeep => ?_))
        have HO := Lib.hid hown'
        have HKp := Lib.hid (hkeep w (HBL.out.alloc hsz _))
        clear hown' hkeep
        go_wp2_with fail
        go_roundw
        case rel => exact SumR.next HDA.out HDB.out hr HL.out HD.out HV.out HKp.out (hmk.out (by omega)) (by rw [HLA.out, HLB.out]; omega) (by rw [HX.out, HY.out]; exact HO.out) rfl (by rw [HX.out, HY.out, Bs_eq]; omega) rfl (by omega)
        case measure => simp [intOf]; omega
    · by_cases h2 : k < m
      · obtain rfl : x = 0 := by rw [← HX.out]; exact getD_out (by rw [HLA.out]; omega)
        obtain ⟨b', off', rfl, -, hcells⟩ := hB.keep HBL.out (by rw [HLB.out]; omega)
        have c2 := hcells k (by rw [HLB.out]; exact h2)
        clear hcells
        rw [HY.out] at c2
        go_wp2_with (at_builtin; refine wpList_push rfl _ _ rfl w.heap.size _ l rfl (hown.alloc _) wr.heap.size rfl _ (cell_new _ _ _) ((r + 0 + y) % Bs) (by rw [Bs_eq]; omega) hll (by simp; omega) (fun v' w' hown' hkeep => ?_))
        have HO := Lib.hid hown'
        have HKp := Lib.hid (hkeep w (HBL.out.alloc hsz _))
        clear hown' hkeep
        go_wp2_with fail
        go_roundw
        case rel => exact SumR.next HDA.out HDB.out hr HL.out HD.out HV.out HKp.out (hmk.out (by omega)) (by rw [HLA.out, HLB.out]; omega) (by rw [HX.out, HY.out]; exact HO.out) rfl (by rw [HX.out, HY.out, Bs_eq]; omega) rfl (by omega)
        case measure => simp [intOf]; omega
      · obtain rfl : x = 0 := by rw [← HX.out]; exact getD_out (by rw [HLA.out]; omega)
        obtain rfl : y = 0 := by rw [← HY.out]; exact getD_out (by rw [HLB.out]; omega)
        by_cases h3 : r = 0
        · subst h3
          go_wp2_with fail
          go_ret
          refine ⟨_, l, rfl, hown.ls HD.out, ?_, HBL.out⟩
          have h4 := HV.out
          rw [Nat.mul_zero, Nat.add_zero, val_take_all (by rw [HLA.out]; omega), val_take_all (by rw [HLB.out]; omega)] at h4
          exact h4
        · obtain rfl : r = 1 := by omega
          go_wp2_with (at_builtin; refine wpList_push rfl _ _ rfl w.heap.size _ l rfl (hown.alloc _) wr.heap.size rfl _ (cell_new _ _ _) ((1 + 0 + 0) % Bs) (by rw [Bs_eq]; omega) hll (by simp; omega) (fun v' w' hown' hkeep => ?_))
          have HO := Lib.hid hown'
          have HKp := Lib.hid (hkeep w (HBL.out.alloc hsz _))
          clear hown' hkeep
          go_wp2_with fail
          go_roundw
          case rel => exact SumR.next HDA.out HDB.out hr HL.out HD.out HV.out HKp.out (hmk.out (by omega)) (by rw [HLA.out, HLB.out]; omega) (by rw [HX.out, HY.out]; exact HO.out) rfl (by rw [HX.out, HY.out, Bs_eq]; omega) rfl (by omega)
          case measure => simp [intOf]; omega

end Go.Proofs.Ytfhmhkbjcccejaa

namespace Go.Proofs.Ytfhmhkbjcccejaa
open Go.RowKit

/-- What has been taken away after k digits. -/
def DifR (w : World) (la lb : List Nat) (o : Value) (c i : Value) (wr : World) : Prop :=
  ∃ (k r : Nat) (l : List Nat), k ≤ la.length ∧ i = .int .i64 (k : Int) ∧ c = .int .i64 (-(r : Int)) ∧ r ≤ 1 ∧ Own wr w.heap.size o l ∧ Dl l ∧ l.length = k ∧
    val l + val (lb.take k) = val (la.take k) + Bs ^ k * r ∧ Below w.heap.size w wr
theorem DifR.start (w : World) (la lb : List Nat) : DifR w la lb (.slice none 0 0) (.int .i64 0) (.int .i64 0) w :=
  ⟨0, 0, [], Nat.zero_le _, rfl, rfl, by omega, Own.nil w _, Dl.nil, rfl, by simp [val], Below.refl _ _⟩
theorem DifR.next {w w' : World} {la lb l : List Nat} {k r d r' : Nat} {o c i : Value} {C I : Int} (hl : l.length = k) (hd : Dl l) (hv : val l + val (lb.take k) = val (la.take k) + Bs ^ k * r) (hbel : Below w.heap.size w w') (hk : k < la.length)
    (hr' : r' ≤ 1) (hdd : d < Bs) (he : d + lb.getD k 0 + r = la.getD k 0 + Bs * r') (hown : Own w' w.heap.size o (l ++ [d])) (hc : c = .int .i64 C) (hC : C = -(r' : Int)) (hi : i = .int .i64 I) (hI : I = ((k + 1 : Nat) : Int)) : DifR w la lb o c i w' := by
  subst hc hC hi hI
  refine ⟨k + 1, r', l ++ [d], hk, rfl, rfl, hr', hown, hd.snoc hdd, by simp [hl], ?_, hbel⟩
  rw [val_snoc, hl, val_take_succ, val_take_succ, Nat.pow_succ, Nat.mul_assoc]
  have h1 : Bs ^ k * (d + lb.getD k 0 + r) = Bs ^ k * (la.getD k 0 + Bs * r') := by rw [he]
  simp only [Nat.mul_add] at h1
  omega

set_option maxRecDepth 100000 in
set_option maxHeartbeats 2000000 in
theorem dif_any (A B : Option Addr) (n m ca cb : Nat) (la lb : List Nat) (w : World) (hn : n ≤ 300000) (hm : m ≤ n) (hla : la.length = n) (hlb : lb.length = m) (hA : Lc w A la) (hB : Lc w B lb) (ha : Dl la) (hb : Dl lb) (hle : val lb ≤ val la) :
    Calls Try.prog 95 #[.slice A n ca, .slice B m cb] w (RetL (fun l => l.length = n ∧ val l + val lb = val la) w) := by
  have HLA := Lib.hid hla
  have HLB := Lib.hid hlb
  have HDA := Lib.hid ha
  have HDB := Lib.hid hb
  have HLE := Lib.hid hle
  clear hla hlb ha hb hle
  go_enter Try.func95, Try.ntmps95
  go_wp2_with fail
  go_loopw [5, 6, 10] (fun o c i wr => DifR w la lb o c i wr) (fun _ _ i _ => n - (intOf i).toNat)
  case atStart => exact DifR.start w la lb
  case round =>
    obtain ⟨k, r, l, hk, rfl, rfl, hr, hown, hd, hl, hv, hbel⟩ := hrel
    have hkn : k ≤ n := by rw [HLA.out] at hk; exact hk
    have hll : l.length ≤ 1000000 := by omega
    have hsz := hbel.size
    have HBL := Lib.hid hbel
    have HV := Lib.hid hv
    have HD := Lib.hid hd
    have HL := Lib.hid hl
    clear hk hbel hv hd hl
    by_cases h1 : k < n
    · obtain ⟨x, hx⟩ : ∃ x, la.getD k 0 = x := ⟨_, rfl⟩
      obtain ⟨y, hy⟩ : ∃ y, lb.getD k 0 = y := ⟨_, rfl⟩
      have hx1 : x < 1073741824 := by have := HDA.out.getD k; rw [Bs_eq] at this; omega
      have hy1 : y < 1073741824 := by have := HDB.out.getD k; rw [Bs_eq] at this; omega
      have HX := Lib.hid hx
      have HY := Lib.hid hy
      clear hx hy
      obtain ⟨b, off, rfl, -, hcells⟩ := hA.keep HBL.out (by rw [HLA.out]; omega)
      have c1 := hcells k (by rw [HLA.out]; exact h1)
      clear hcells
      rw [HX.out] at c1
      by_cases h2 : k < m
      · obtain ⟨b', off', rfl, -, hcells⟩ := hB.keep HBL.out (by rw [HLB.out]; omega)
        have c2 := hcells k (by rw [HLB.out]; exact h2)
        clear hcells
        rw [HY.out] at c2
        by_cases h3 : -(r : Int) + (x : Int) - (y : Int) < 0
        · have h4 := decide_eq_true h3
          go_wp2_with (at_builtin; refine wpList_push rfl _ _ rfl w.heap.size _ l rfl (hown.alloc _) wr.heap.size rfl _ (cell_new _ _ _) (x + 1073741824 - r - y) (by omega) hll (by simp; omega) (fun v' w' hown' hkeep => ?_))
          have HO := Lib.hid hown'
          have HKp := Lib.hid (hkeep w (HBL.out.alloc hsz _))
          clear hown' hkeep
          go_wp2_with fail
          go_roundw
          case rel => exact DifR.next (d := x + 1073741824 - r - y) (r' := 1) HL.out HD.out HV.out HKp.out (by rw [HLA.out]; exact h1) (by omega) (by rw [Bs_eq]; omega) (by rw [HX.out, HY.out, Bs_eq]; omega) HO.out rfl (by omega) rfl (by omega)
          case measure => simp [intOf]; omega
        · have h4 := decide_eq_false h3
          go_wp2_with (at_builtin; refine wpList_push rfl _ _ rfl w.heap.size _ l rfl (hown.alloc _) wr.heap.size rfl _ (cell_new _ _ _) (x - r - y) (by omega) hll (by simp; omega) (fun v' w' hown' hkeep => ?_))
          have HO := Lib.hid hown'
          have HKp := Lib.hid (hkeep w (HBL.out.alloc hsz _))
          clear hown' hkeep
          go_wp2_with fail
          go_roundw
          case rel => exact DifR.next (d := x - r - y) (r' := 0) HL.out HD.out HV.out HKp.out (by rw [HLA.out]; exact h1) (by omega) (by rw [Bs_eq]; omega) (by rw [HX.out, HY.out, Bs_eq]; omega) HO.out rfl (by omega) rfl (by omega)
          case measure => simp [intOf]; omega
      · obtain rfl : y = 0 := by rw [← HY.out]; exact getD_out (by rw [HLB.out]; omega)
        by_cases h3 : -(r : Int) + (x : Int) < 0
        · have h4 := decide_eq_true h3
          go_wp2_with (at_builtin; refine wpList_push rfl _ _ rfl w.heap.size _ l rfl (hown.alloc _) wr.heap.size rfl _ (cell_new _ _ _) (x + 1073741824 - r - 0) (by omega) hll (by simp; omega) (fun v' w' hown' hkeep => ?_))
          have HO := Lib.hid hown'
          have HKp := Lib.hid (hkeep w (HBL.out.alloc hsz _))
          clear hown' hkeep
          go_wp2_with fail
          go_roundw
          case rel => exact DifR.next (d := x + 1073741824 - r - 0) (r' := 1) HL.out HD.out HV.out HKp.out (by rw [HLA.out]; exact h1) (by omega) (by rw [Bs_eq]; omega) (by rw [HX.out, HY.out, Bs_eq]; omega) HO.out rfl (by omega) rfl (by omega)
          case measure => simp [intOf]; omega
        · have h4 := decide_eq_false h3
          go_wp2_with (at_builtin; refine wpList_push rfl _ _ rfl w.heap.size _ l rfl (hown.alloc _) wr.heap.size rfl _ (cell_new _ _ _) (x - r - 0) (by omega) hll (by simp; omega) (fun v' w' hown' hkeep => ?_))
          have HO := Lib.hid hown'
          have HKp := Lib.hid (hkeep w (HBL.out.alloc hsz _))
          clear hown' hkeep
          go_wp2_with fail
          go_roundw
          case rel => exact DifR.next (d := x - r - 0) (r' := 0) HL.out HD.out HV.out HKp.out (by rw [HLA.out]; exact h1) (by omega) (by rw [Bs_eq]; omega) (by rw [HX.out, HY.out, Bs_eq]; omega) HO.out rfl (by omega) rfl (by omega)
          case measure => simp [intOf]; omega
    · obtain rfl : k = n := by omega
      go_wp2_with fail
      go_ret
      have h4 := HV.out
      rw [val_take_all (l := la) (by rw [HLA.out]; omega), val_take_all (l := lb) (by rw [HLB.out]; omega)] at h4
      have h5 := val_lt HD.out
      rw [HL.out] at h5
      have h6 := HLE.out
      have h7 : r = 0 := by
        rcases Nat.eq_zero_or_pos r with h | h
        · exact h
        · have : Bs ^ k * 1 ≤ Bs ^ k * r := Nat.mul_le_mul_left _ h
          omega
      refine ⟨_, l, rfl, hown.ls HD.out, ⟨HL.out, ?_⟩, HBL.out⟩
      rw [h7, Nat.mul_zero, Nat.add_zero] at h4
      exact h4

/-- What a function returns that makes a list of its own: one of which P holds. -/
def RetO (P : List Nat → Prop) (w : World) (e : Ending) (w' : World) : Prop := ∃ v l, e = .returned v ∧ Own w' w.heap.size v l ∧ Dl l ∧ P l ∧ Below w.heap.size w w'

/-- What has been multiplied after k digits. -/
def ScaR (w : World) (la : List Nat) (n : Nat) (o : Value) (c i : Value) (wr : World) : Prop :=
  ∃ (k r : Nat) (l : List Nat), k ≤ la.length ∧ i = .int .i64 (k : Int) ∧ c = .int .i64 (r : Int) ∧ r < Bs ∧ Own wr w.heap.size o l ∧ Dl l ∧ l.length = k ∧
    val l + Bs ^ k * r = val (la.take k) * n ∧ Below w.heap.size w wr
theorem ScaR.start (w : World) (la : List Nat) (n : Nat) : ScaR w la n (.slice none 0 0) (.int .i64 0) (.int .i64 0) w :=
  ⟨0, 0, [], Nat.zero_le _, rfl, rfl, Bs_pos, Own.nil w _, Dl.nil, rfl, by simp [val], Below.refl _ _⟩
theorem sca_bd {x n : Nat} (hx : x < Bs) (hn : n < Bs) : x * n ≤ 1152921502459363329 := by
  have h1 : x * n ≤ 1073741823 * 1073741823 := Nat.mul_le_mul (by rw [Bs_eq] at hx; omega) (by rw [Bs_eq] at hn; omega)
  omega
theorem ScaR.next {w w' : World} {la l : List Nat} {n k r : Nat} {o c i : Value} {C I : Int} (ha : Dl la) (hn : n < Bs) (hr : r < Bs) (hl : l.length = k) (hd : Dl l) (hv : val l + Bs ^ k * r = val (la.take k) * n) (hbel : Below w.heap.size w w') (hk : k < la.length)
    (hown : Own w' w.heap.size o (l ++ [(r + la.getD k 0 * n) % Bs])) (hc : c = .int .i64 C) (hC : C = (((r + la.getD k 0 * n) / Bs : Nat) : Int)) (hi : i = .int .i64 I) (hI : I = ((k + 1 : Nat) : Int)) : ScaR w la n o c i w' := by
  subst hc hC hi hI
  have h1 := sca_bd (ha.getD k) hn
  have h3 := Nat.div_add_mod (r + la.getD k 0 * n) Bs
  refine ⟨k + 1, _, _, hk, rfl, rfl, ?_, hown, hd.snoc (Nat.mod_lt _ Bs_pos), by simp [hl], ?_, hbel⟩
  · rw [Bs_eq] at hr ⊢
    omega
  · rw [val_snoc, hl, val_take_succ, Nat.pow_succ, Nat.mul_assoc, Nat.add_assoc, ← Nat.mul_add, Nat.add_comm (_ % _), h3, Nat.mul_add, Nat.add_mul, ← Nat.add_assoc, hv, Nat.mul_assoc]

set_option maxRecDepth 100000 in
set_option maxHeartbeats 2000000 in
theorem sca_own (A : Option Addr) (n ca q : Nat) (la : List Nat) (w : World) (hn : n ≤ 300000) (hq : q < 1073741824) (hla : la.length = n) (hA : Lc w A la) (ha : Dl la) :
    Calls Try.prog 99 #[.slice A n ca, .int .i64 (q : Int)] w (RetO (fun l => l.length = n + 1 ∧ val l = val la * q) w) := by
  have HLA := Lib.hid hla
  have HDA := Lib.hid ha
  clear hla ha
  go_enter Try.func99, Try.ntmps99
  go_wp2_with fail
  go_loopw [5, 6, 11] (fun o c i wr => ScaR w la q o c i wr) (fun _ _ i _ => n - (intOf i).toNat)
  case atStart => exact ScaR.start w la q
  case round =>
    obtain ⟨k, r, l, hk, rfl, rfl, hr, hown, hd, hl, hv, hbel⟩ := hrel
    have hkn : k ≤ n := by rw [HLA.out] at hk; exact hk
    have hr1 : r < 1073741824 := by rw [Bs_eq] at hr; exact hr
    have hll : l.length ≤ 1000000 := by omega
    have hsz := hbel.size
    have HBL := Lib.hid hbel
    have HV := Lib.hid hv
    have HD := Lib.hid hd
    have HL := Lib.hid hl
    clear hk hbel hv hd hl hr
    by_cases h1 : k < n
    · obtain ⟨x, hx⟩ : ∃ x, la.getD k 0 = x := ⟨_, rfl⟩
      have hx1 : x < 1073741824 := by have := HDA.out.getD k; rw [Bs_eq] at this; omega
      have HX := Lib.hid hx
      clear hx
      obtain ⟨t, ht⟩ : ∃ t, x * q = t := ⟨_, rfl⟩
      have ht1 : t ≤ 1152921502459363329 := by rw [← ht]; exact sca_bd (by rw [Bs_eq]; exact hx1) (by rw [Bs_eq]; exact hq)
      have hxq : (x : Int) * (q : Int) = (t : Int) := by rw [← ht]; exact (Int.natCast_mul x q).symm
      have HT := Lib.hid ht
      clear ht
      obtain ⟨b, off, rfl, -, hcells⟩ := hA.keep HBL.out (by rw [HLA.out]; omega)
      have c1 := hcells k (by rw [HLA.out]; exact h1)
      clear hcells
      rw [HX.out] at c1
      go_wp2_with (at_builtin; refine wpList_push rfl _ _ rfl w.heap.size _ l rfl (hown.alloc _) wr.heap.size rfl _ (cell_new _ _ _) ((r + t) % Bs) (by rw [Bs_eq]; omega) hll (by simp; omega) (fun v' w' hown' hkeep => ?_))
      have HO := Lib.hid hown'
      have HKp := Lib.hid (hkeep w (HBL.out.alloc hsz _))
      clear hown' hkeep
      go_wp2_with fail
      go_roundw
      case rel => exact ScaR.next HDA.out (by rw [Bs_eq]; exact hq) (by rw [Bs_eq]; exact hr1) HL.out HD.out HV.out HKp.out (by rw [HLA.out]; exact h1) (by rw [HX.out, HT.out]; exact HO.out) rfl (by rw [HX.out, HT.out, Bs_eq]; omega) rfl (by omega)
      case measure => simp [intOf]; omega
    · obtain rfl : k = n := by omega
      go_wp2_with (at_builtin; refine wpList_push rfl _ _ rfl w.heap.size _ l rfl (hown.alloc _) wr.heap.size rfl _ (cell_new _ _ _) (r) (rfl) hll (by simp; omega) (fun v' w' hown' hkeep => ?_))
      have HO := Lib.hid hown'
      have HKp := Lib.hid (hkeep w (HBL.out.alloc hsz _))
      clear hown' hkeep
      go_wp2_with fail
      go_ret
      refine ⟨_, l ++ [r], rfl, HO.out, HD.out.snoc (by rw [Bs_eq]; exact hr1), ⟨by simp [HL.out], ?_⟩, HKp.out⟩
      rw [val_snoc, HL.out, HV.out, val_take_all (by rw [HLA.out]; omega)]

theorem sca_any (A : Option Addr) (n ca q : Nat) (la : List Nat) (w : World) (hn : n ≤ 300000) (hq : q < 1073741824) (hla : la.length = n) (hA : Lc w A la) (ha : Dl la) :
    Calls Try.prog 99 #[.slice A n ca, .int .i64 (q : Int)] w (RetL (fun l => l.length = n + 1 ∧ val l = val la * q) w) :=
  (sca_own A n ca q la w hn hq hla hA ha).mono fun _ _ ⟨v, l, e, ho, hd, hp, hb⟩ => ⟨v, l, e, ho.ls hd, hp, hb⟩

end Go.Proofs.Ytfhmhkbjcccejaa

namespace Go.Proofs.Ytfhmhkbjcccejaa
open Go.RowKit

/-- Block g is a row of the digits l. -/
def RowI (w : World) (g : Nat) (l : List Nat) : Prop := w.rowIs g 3 l.length (fun j => .int .i64 ((l.getD j 0 : Nat) : Int))
theorem RowI.cell {w : World} {g : Nat} {l : List Nat} (h : RowI w g l) {i : Nat} (hi : i < l.length) : w.cell? ⟨g, i, none⟩ = some (.int .i64 ((l.getD i 0 : Nat) : Int)) := World.rowIs.cell h hi
theorem RowI.frozen {w : World} {g : Nat} {l : List Nat} (h : RowI w g l) (i : Nat) : w.frozen? ⟨g, i, none⟩ = false := World.rowIs.frozen h i
theorem RowI.lt {w : World} {g : Nat} {l : List Nat} (h : RowI w g l) : g < w.heap.size := World.rowIs.lt h
theorem RowI.block {w w' : World} {g : Nat} {l : List Nat} (h : RowI w g l) (e : w'.heap[g]? = w.heap[g]?) : RowI w' g l := World.rowIs.of_block h e
theorem RowI.keep {w w' : World} {g : Nat} {l : List Nat} (h : RowI w g l) (hb : Below w.heap.size w w') : RowI w' g l := h.block (hb.block g h.lt)
theorem RowI.drewN {w : World} {g : Nat} {l : List Nat} (h : RowI w g l) (k : Nat) : RowI (w.drewN k) g l := h
theorem getD_set (l : List Nat) (i x j : Nat) (hi : i < l.length) : (l.set i x).getD j 0 = if j = i then x else l.getD j 0 := by
  simp only [List.getD_eq_getElem?_getD]
  by_cases e : j = i
  · subst e
    rw [List.getElem?_set_self hi, if_pos rfl]
    rfl
  · rw [List.getElem?_set_ne (Ne.symm e), if_neg e]
theorem RowI.set {w : World} {g : Nat} {l : List Nat} (h : RowI w g l) {i : Nat} (hi : i < l.length) (x : Nat) : RowI (w.setCell ⟨g, i, none⟩ (.int .i64 (x : Int))) g (l.set i x) := by
  unfold RowI
  rw [List.length_set]
  refine World.rowIs.congr (World.rowIs.set h i _) fun j _ => ?_
  rw [getD_set l i x j hi]
  split <;> rfl
theorem RowI.new (w : World) (n : Nat) : RowI (w.alloc (.cells (madeCells #[.int .i64 0] n) 3)) w.heap.size (List.replicate n 0) := by
  unfold RowI
  rw [List.length_replicate]
  refine World.rowIs.congr (World.rowIs_made w (.int .i64 0) n 3) fun j hj => ?_
  simp [List.getD_eq_getElem?_getD, hj]
theorem RowI.lc {w : World} {g : Nat} {l : List Nat} (h : RowI w g l) : Lc w (some ⟨g, 0, none⟩) l := fun _ => by
  obtain ⟨cs, hc, _⟩ := id h
  exact ⟨g, 0, rfl, ⟨cs, _, hc⟩, fun i hi => by rw [Nat.zero_add]; exact h.cell hi⟩
theorem Lc.drop {w : World} {b off : Nat} {l : List Nat} (h : Lc w (some ⟨b, off, none⟩) l) (k : Nat) : Lc w (some ⟨b, off + k, none⟩) (l.drop k) := by
  intro hn
  rw [List.length_drop] at hn
  obtain ⟨b', off', hA, hx, hc⟩ := h (by omega)
  injection hA with hA
  injection hA with e1 e2
  subst e1 e2
  refine ⟨b, off + k, rfl, hx, fun i hi => ?_⟩
  rw [List.length_drop] at hi
  rw [getD_drop, Nat.add_assoc]
  exact hc (k + i) (by omega)
theorem Drn.rowI {w w' : World} (h : Drn w w') {g : Nat} {l : List Nat} (hd : RowI w g l) : RowI w' g l := by obtain ⟨q, rfl⟩ := h; exact hd
theorem make_rowI (n : Nat) (h : n ≤ 4000000) (w : World) :
    (Instr.makeSlice 34 (.int .i64 (n : Int)) (.int .i64 (n : Int))).run Try.prog w = .ok (.slice (some ⟨w.heap.size, 0, none⟩) n n) (w.alloc (.cells (madeCells #[.int .i64 0] n) 3)) :=
  run_make_row' (P := Try.prog) 34 3 (.int .i64 0) 8 Try.underlying34 info3 rfl .i64 .i64 n (by omega) (by omega) w

/-- What is left and what has been found, from digit k on. -/
def ShoR (w : World) (la : List Nat) (b : Nat) (rest i : Value) (wr : World) : Prop :=
  ∃ (k r : Nat) (q : List Nat), k ≤ la.length ∧ i = .int .i64 ((k : Int) - 1) ∧ rest = .int .i64 (r : Int) ∧ r < b ∧ q.length = la.length ∧ RowI wr w.heap.size q ∧ Dl q ∧
    val (la.drop k) = val (q.drop k) * b + r ∧ Below w.heap.size w wr
theorem Dl.zeros (n : Nat) : Dl (List.replicate n 0) := fun d hd => by rw [List.eq_of_mem_replicate hd]; exact Bs_pos
theorem Dl.set {l : List Nat} (h : Dl l) (i : Nat) {x : Nat} (hx : x < Bs) : Dl (l.set i x) := fun d hd => by
  rcases List.mem_or_eq_of_mem_set hd with hd | hd
  · exact h d hd
  · rw [hd]; exact hx
theorem ShoR.start (w : World) (la : List Nat) (n b : Nat) (hn : la.length = n) (hb : 0 < b) {a : Int} (ha : a = (n : Int) - 1) : ShoR w la b (.int .i64 0) (.int .i64 a) (w.alloc (.cells (madeCells #[.int .i64 0] n) 3)) :=
  ⟨n, 0, List.replicate n 0, by omega, by rw [ha], rfl, hb, by simp [hn], RowI.new w n, Dl.zeros n, by rw [List.drop_of_length_le (by omega), List.drop_of_length_le (by simp)]; simp [val], (Below.refl _ _).alloc (Nat.le_refl _) _⟩
theorem sho_digit (r x b : Nat) (hr : r < b) (hx : x < Bs) : (r * Bs + x) / b < Bs := by
  rw [Nat.div_lt_iff_lt_mul (by omega)]
  have h := Nat.mul_le_mul_right Bs (show r + 1 ≤ b from hr)
  rw [Nat.add_mul, Nat.one_mul, Nat.mul_comm b Bs] at h
  omega
theorem ShoR.next {w wr w2 : World} {la q : List Nat} {b j r : Nat} (ha : Dl la) (hj : j < la.length) (hr : r < b) (hq : q.length = la.length) (hrow : RowI wr w.heap.size q) (hd : Dl q) (hv : val (la.drop (j + 1)) = val (q.drop (j + 1)) * b + r) (hbel : Below w.heap.size w wr)
    {X C I : Int} {c i : Value} (hX : X = (((r * Bs + la.getD j 0) / b : Nat) : Int)) (hc : c = .int .i64 C) (hC : C = (((r * Bs + la.getD j 0) % b : Nat) : Int)) (hi : i = .int .i64 I) (hI : I = (j : Int) - 1) {N : Nat} (hw : w2 = (wr.setCell ⟨w.heap.size, j, none⟩ (.int .i64 X)).drewN N) : ShoR w la b c i w2 := by
  subst hX hc hC hi hI hw
  have hjq : j < q.length := by omega
  refine ⟨j, (r * Bs + la.getD j 0) % b, q.set j ((r * Bs + la.getD j 0) / b), by omega, rfl, rfl, Nat.mod_lt _ (by omega), by simp [hq], (hrow.set hjq _).drewN _, hd.set _ (sho_digit _ _ _ hr (ha.getD j)), ?_, ?_⟩
  · rw [val_drop (l := la) hj, val_drop (l := q.set j ((r * Bs + la.getD j 0) / b)) (k := j) (by rw [List.length_set]; exact hjq), getD_set _ _ _ _ hjq, if_pos rfl, hv, List.drop_set_of_lt (by omega)]
    have hdm := Nat.div_add_mod (r * Bs + la.getD j 0) b
    rw [Nat.add_mul, Nat.mul_add, Nat.mul_assoc, Nat.mul_comm Bs r]
    rw [Nat.mul_comm b] at hdm
    omega
  · have h := hbel.setCell (p := ⟨w.heap.size, j, none⟩) (Nat.le_refl _) (.int .i64 (((r * Bs + la.getD j 0) / b : Nat) : Int))
    exact ⟨h.os, h.tape, h.output, h.size, h.block⟩

/-- What shorter returns. -/
def RetSh (la : List Nat) (b : Nat) (w : World) (e : Ending) (w' : World) : Prop :=
  ∃ v q r, e = .returned (.tuple #[v, .int .i64 ((r : Nat) : Int)]) ∧ Ls w' v q ∧ q.length = la.length ∧ val la = val q * b + r ∧ r < b ∧ Below w.heap.size w w'

set_option maxRecDepth 100000 in
set_option maxHeartbeats 2000000 in
theorem sho_any (A : Option Addr) (n ca b : Nat) (la : List Nat) (w : World) (hn : n ≤ 1000000) (hb0 : 0 < b) (hb : b ≤ 1073741824) (hla : la.length = n) (hA : Lc w A la) (ha : Dl la) :
    Calls Try.prog 98 #[.slice A n ca, .int .i64 (b : Int)] w (RetSh la b w) := by
  have hmk := make_rowI n (by omega)
  have HLA := Lib.hid hla
  have HDA := Lib.hid ha
  clear hla ha
  go_enter Try.func98, Try.ntmps98
  go_wp2_with fail
  clear hmk
  go_loopw [5, 6] (fun r i wr => ShoR w la b r i wr) (fun _ i _ => (intOf i + 1).toNat)
  case atStart => exact ShoR.start w la n b HLA.out hb0 rfl
  case round =>
    obtain ⟨k, r, q, hk, rfl, rfl, hr, hq, hrow, hd, hv, hbel⟩ := hrel
    have hkn : k ≤ n := by rw [HLA.out] at hk; exact hk
    have HV := Lib.hid hv
    have HD := Lib.hid hd
    have HQ := Lib.hid hq
    have HR := Lib.hid hrow
    have HBL := Lib.hid hbel
    clear hv hd hq hrow hk hbel
    rcases Nat.eq_zero_or_pos k with h0 | h0
    · subst h0
      rw [show (((0 : Nat) : Int) - 1) = -1 from rfl]
      go_wp2_with fail
      go_ret2
      exact ⟨.slice (some ⟨w.heap.size, 0, none⟩) n n, q, r, rfl, ⟨some ⟨w.heap.size, 0, none⟩, n, by rw [HQ.out, HLA.out], by rw [HQ.out, HLA.out]; omega, HD.out, HR.out.lc⟩, HQ.out, HV.out, hr, HBL.out⟩
    · obtain ⟨j, rfl⟩ : ∃ j, k = j + 1 := ⟨k - 1, by omega⟩
      have ej : (((j + 1 : Nat) : Int) - 1) = (j : Int) := by omega
      rw [ej]
      clear ej h0
      have hj : j < n := by omega
      obtain ⟨x, hx⟩ : ∃ x, la.getD j 0 = x := ⟨_, rfl⟩
      have hx1 : x < 1073741824 := by have := HDA.out.getD j; rw [Bs_eq] at this; omega
      have HX := Lib.hid hx
      clear hx
      obtain ⟨bb, off, rfl, -, hcells⟩ := (hA.keep HBL.out) (by rw [HLA.out]; omega)
      have hc1 := hcells j (by rw [HLA.out]; exact hj)
      rw [HX.out] at hc1
      have hcell := HR.out.cell (i := j) (by rw [HQ.out, HLA.out]; exact hj)
      have hfr := HR.out.frozen j
      clear hcells
      obtain ⟨T, hT⟩ : ∃ T, r * 1073741824 + x = T := ⟨_, rfl⟩
      have hTI : (r : Int) * 1073741824 + (x : Int) = (T : Int) := by omega
      have hTb : T ≤ 1152921504606846976 := by omega
      have HT := Lib.hid hT
      clear hT
      go_wp2_with fail
      have hq1 : ((T : Int)).tdiv (b : Int) = ((T / b : Nat) : Int) := rfl
      have hq2 : ((T : Int)).tmod (b : Int) = ((T % b : Nat) : Int) := rfl
      have hq3 : T / b ≤ T := Nat.div_le_self _ _
      have hq4 : wrap64 ((T : Int) / (b : Int)) = ((T / b : Nat) : Int) := by
        have e : (T : Int) / (b : Int) = ((T / b : Nat) : Int) := rfl
        rw [e]
        generalize T / b = u at hq3
        exact IntWalk.wrap64_in (u : Int) (by omega)
      have HQ4 := Lib.hid hq4
      clear hq4 hq1 hq2 hq3
      go_region
      all_goals go_wp2_with fail
      all_goals exact ⟨ShoR.next (N := 1) HDA.out (by rw [HLA.out]; exact hj) hr HQ.out HR.out HD.out HV.out HBL.out (by rw [HX.out, Bs_eq, HT.out]; exact HQ4.out) rfl (by rw [HX.out, Bs_eq, HT.out]; rfl) rfl rfl rfl, by simp [intOf]⟩

end Go.Proofs.Ytfhmhkbjcccejaa

namespace Go.Proofs.Ytfhmhkbjcccejaa
open Go.RowKit

/-- From here on an integer has digits. -/
def Edge : Nat := 2305843009213693952
theorem Edge_eq : Edge = 2305843009213693952 := rfl

/-- The parts of an integer of the reference read as z. -/
def RI (w : World) (s : Int) (neg : Bool) (A : Option Addr) (n c : Nat) (z : Int) : Prop :=
  ∃ l, l.length = n ∧ (n ≤ c ∧ c ≤ 9223372036854775807) ∧ Dl l ∧ Lc w A l ∧ ((n = 0 ∧ s = z ∧ neg = false ∧ z.natAbs < Edge) ∨ (0 < n ∧ s = 0 ∧ neg = decide (z < 0) ∧ Nz l ∧ val l = z.natAbs ∧ Edge ≤ z.natAbs))
theorem RI.keep {w w' : World} {s : Int} {neg : Bool} {A : Option Addr} {n c : Nat} {z : Int} (h : RI w s neg A n c z) (hb : Below w.heap.size w w') : RI w' s neg A n c z := by
  obtain ⟨l, h1, h2, h3, h4, h5⟩ := h
  exact ⟨l, h1, h2, h3, h4.keep hb, h5⟩
theorem RI.set {w : World} {s : Int} {neg : Bool} {A : Option Addr} {n c : Nat} {z : Int} (h : RI w s neg A n c z) {k T : Nat} (hb : Bx w k T) (hT : T ≠ 3) (o : Nat) (u : Value) : RI (w.setCell ⟨k, o, none⟩ u) s neg A n c z := by
  obtain ⟨l, h1, h2, h3, h4, h5⟩ := h
  exact ⟨l, h1, h2, h3, h4.set hb hT o u, h5⟩
theorem RI.small (w : World) {z : Int} (h : z.natAbs < Edge) (A : Option Addr) (c : Nat) (hc : c ≤ 9223372036854775807) : RI w z false A 0 c z :=
  ⟨[], rfl, ⟨Nat.zero_le _, hc⟩, Dl.nil, Lc.nil w A, Or.inl ⟨rfl, rfl, rfl, h⟩⟩
theorem RI.len {w : World} {s : Int} {neg : Bool} {A : Option Addr} {n c : Nat} {z : Int} (h : RI w s neg A n c z) {k : Nat} (hz : z.natAbs < Bs ^ k) : n ≤ k := by
  obtain ⟨l, h1, h2, h3, h4, ⟨e, _⟩ | ⟨_, _, _, h5, h6, _⟩⟩ := h
  · omega
  · rw [← h1]
    exact len_le h5 (by rw [h6]; exact hz)

/-- What a function returns that makes an integer. -/
def RetI (z : Int) (w : World) (e : Ending) (w' : World) : Prop := ∃ s neg A n c, e = .returned (.agg #[.int .i64 s, .bool neg, .slice A n c]) ∧ RI w' s neg A n c z ∧ Below w.heap.size w w'

/-- A box of three cells that may be written. -/
def W3 (g : Nat) (w : World) : Prop := (∃ p q r, w.cell? ⟨g, 0, none⟩ = some p ∧ w.cell? ⟨g, 1, none⟩ = some q ∧ w.cell? ⟨g, 2, none⟩ = some r) ∧ w.frozen? ⟨g, 0, none⟩ = false ∧ w.frozen? ⟨g, 1, none⟩ = false ∧ w.frozen? ⟨g, 2, none⟩ = false ∧ Bx w g 36
theorem W3.keep {g : Nat} {w w' : World} (h : W3 g w) (hB : Below w.heap.size w w') : W3 g w' := by
  obtain ⟨⟨p, q, r, h1, h2, h3⟩, f1, f2, f3, hx⟩ := h
  have hz := hx.lt
  exact ⟨⟨p, q, r, (hB.cell (p := ⟨g, 0, none⟩) hz).trans h1, (hB.cell (p := ⟨g, 1, none⟩) hz).trans h2, (hB.cell (p := ⟨g, 2, none⟩) hz).trans h3⟩,
    (hB.frozen (p := ⟨g, 0, none⟩) hz).trans f1, (hB.frozen (p := ⟨g, 1, none⟩) hz).trans f2, (hB.frozen (p := ⟨g, 2, none⟩) hz).trans f3, hx.keep hB⟩
theorem W3.new (w : World) (p q r : Value) {g : Nat} (hg : g = w.heap.size) : W3 g (w.alloc (.cells #[p, q, r] 36)) := by
  subst hg
  refine ⟨⟨p, q, r, ?_, ?_, ?_⟩, ?_, ?_, ?_, Bx.new w _ 36⟩ <;> simp [go_sem]
theorem W3.drewN {g : Nat} {w : World} (h : W3 g w) (k : Nat) : W3 g (w.drewN k) := h
/-- A box of three cells holds these values. -/
def B3 (g : Nat) (p q r : Value) (w : World) : Prop := w.cell? ⟨g, 0, none⟩ = some p ∧ w.cell? ⟨g, 1, none⟩ = some q ∧ w.cell? ⟨g, 2, none⟩ = some r ∧ g < w.heap.size
theorem B3.new (w : World) (p q r : Value) : B3 w.heap.size p q r (w.alloc (.cells #[p, q, r] 36)) := by simp [B3, go_sem]
theorem B3.keep {g : Nat} {p q r : Value} {w w' : World} (h : B3 g p q r w) (hB : Below w.heap.size w w') : B3 g p q r w' :=
  ⟨(hB.cell (p := ⟨g, 0, none⟩) h.2.2.2).trans h.1, (hB.cell (p := ⟨g, 1, none⟩) h.2.2.2).trans h.2.1, (hB.cell (p := ⟨g, 2, none⟩) h.2.2.2).trans h.2.2.1, Nat.lt_of_lt_of_le h.2.2.2 hB.size⟩

/-- The result is laid into its box. -/
theorem retI_box {s z : Int} {neg : Bool} {A : Option Addr} {n c g : Nat} {w w1 : World} (h : RI w1 s neg A n c z) (hx : Bx w1 g 36) (hB : Below w.heap.size w w1) (hg : w.heap.size ≤ g) :
    RetI z w (.returned (.agg #[.int .i64 s, .bool neg, .slice A n c])) (((w1.setCell ⟨g, 0, none⟩ (.int .i64 s)).setCell ⟨g, 1, none⟩ (.bool neg)).setCell ⟨g, 2, none⟩ (.slice A n c)) :=
  ⟨s, neg, A, n, c, rfl, ((h.set hx (by decide) _ _).set (hx.set _ _ _) (by decide) _ _).set ((hx.set _ _ _).set _ _ _) (by decide) _ _, ((hB.setCell hg _).setCell hg _).setCell hg _⟩

/-- -1, 0 or 1. -/
def sgnI (z : Int) : Int := if z < 0 then -1 else if z = 0 then 0 else 1

set_option maxRecDepth 100000 in
set_option maxHeartbeats 1000000 in
theorem rsign_any (s : Int) (neg : Bool) (A : Option Addr) (n c : Nat) (z : Int) (w : World) (h : RI w s neg A n c z) (hn : n ≤ 1000000) :
    Calls Try.prog 59 #[.agg #[.int .i64 s, .bool neg, .slice A n c]] w fun e w' => e = .returned (.int .i64 (sgnI z)) ∧ Below w.heap.size w w' := by
  obtain ⟨l, -, -, -, -, ⟨rfl, rfl, rfl, -⟩ | ⟨h1, rfl, h3, -, -, h6⟩⟩ := h
  · rcases Int.lt_trichotomy s 0 with h | h | h
    · have e : sgnI s = -1 := if_pos h
      rw [e]; clear e
      have hd := decide_eq_true h
      go_enter Try.func59, Try.ntmps59
      go_wp2_with fail
      go_ret
      exact ⟨rfl, below_alloc w _⟩
    · subst h
      go_enter Try.func59, Try.ntmps59
      go_wp2_with fail
      go_ret
      exact ⟨rfl, below_alloc w _⟩
    · have e : sgnI s = 1 := by unfold sgnI; rw [if_neg (by omega), if_neg (by omega)]
      rw [e]; clear e
      have hd : ¬ s < 0 := by omega
      go_enter Try.func59, Try.ntmps59
      go_wp2_with fail
      go_ret
      exact ⟨rfl, below_alloc w _⟩
  · rw [Edge_eq] at h6
    cases hz : decide (z < 0)
    · have e : sgnI z = 1 := by have := of_decide_eq_false hz; unfold sgnI; rw [if_neg (by omega), if_neg (by omega)]
      rw [hz] at h3
      subst h3
      rw [e]
      clear e hz h6
      go_enter Try.func59, Try.ntmps59
      go_wp2_with fail
      go_ret
      exact ⟨rfl, below_alloc w _⟩
    · have e : sgnI z = -1 := if_pos (of_decide_eq_true hz)
      rw [hz] at h3
      subst h3
      rw [e]
      clear e hz h6
      go_enter Try.func59, Try.ntmps59
      go_wp2_with fail
      go_ret
      exact ⟨rfl, below_alloc w _⟩

end Go.Proofs.Ytfhmhkbjcccejaa

namespace Go.Proofs.Ytfhmhkbjcccejaa
open Go.RowKit

theorem retI {s z : Int} {neg : Bool} {A : Option Addr} {n c : Nat} {w w1 : World} (h : RI w1 s neg A n c z) (hB : Below w.heap.size w w1) : RetI z w (.returned (.agg #[.int .i64 s, .bool neg, .slice A n c])) w1 := ⟨s, neg, A, n, c, rfl, h, hB⟩
theorem below_two (w : World) (o o' : Obj) : Below w.heap.size w ((w.alloc o).alloc o') := ((Below.refl _ _).alloc (Nat.le_refl _) _).alloc (by simp) _

set_option maxRecDepth 100000 in
set_option maxHeartbeats 1000000 in
theorem rminus_any (s : Int) (neg : Bool) (A : Option Addr) (n c : Nat) (z : Int) (w : World) (h : RI w s neg A n c z) (hn : n ≤ 1000000) :
    Calls Try.prog 60 #[.agg #[.int .i64 s, .bool neg, .slice A n c]] w (RetI (-z) w) := by
  obtain ⟨l, h1, h2, h3, h4, ⟨rfl, rfl, rfl, h5⟩ | ⟨h5, rfl, h6, h7, h8, h9⟩⟩ := h
  · have HR : Hid (∀ wx, Below w.heap.size w wx → RI wx (-s) false A 0 c (-s)) := fun wx _ => RI.small wx (by rw [Int.natAbs_neg]; exact h5) A c h2.2
    have hw : IntKind.i64.wrap (-s) = -s := IntWalk.i64_in _ (by rw [Edge_eq] at h5; omega)
    obtain ⟨t, ht⟩ : ∃ t, -s = t := ⟨_, rfl⟩
    rw [ht] at HR hw ⊢
    have hw : IntKind.i64.wrap (-s) = t := by rw [ht]; exact hw
    clear h1 h2 h3 h4 h5
    go_enter Try.func60, Try.ntmps60
    go_wp2_with fail
    exact bodyPost_ret (v := .agg #[.int .i64 t, .bool false, .slice A 0 c]) (by simp [results, Try.results60, go_sem]) rfl (retI (HR.out _ (below_two w _ _)) (below_two w _ _))
  · have HR : Hid (∀ wx, Below w.heap.size w wx → RI wx 0 (!neg) A n c (-z)) := fun wx hb => ⟨l, h1, h2, h3, h4.keep hb, Or.inr ⟨h5, rfl, by
      rw [h6]
      rw [Edge_eq] at h9
      by_cases hz : z < 0
      · rw [decide_eq_true hz, decide_eq_false (by omega)]; rfl
      · rw [decide_eq_false hz, decide_eq_true (by omega)]; rfl, h7, by rw [Int.natAbs_neg]; exact h8, by rw [Int.natAbs_neg]; exact h9⟩⟩
    clear h1 h2 h3 h4 h6 h7 h8 h9
    go_enter Try.func60, Try.ntmps60
    go_wp2_with fail
    exact bodyPost_ret (v := .agg #[.int .i64 0, .bool (!neg), .slice A n c]) (by simp [results, Try.results60, go_sem]) rfl (retI (HR.out _ (below_two w _ _)) (below_two w _ _))

/-- What Small returns. -/
def smallV (z : Int) : Value := if z.natAbs ≤ 1152921504606846976 then .tuple #[.int .i64 z, .bool true] else .tuple #[.int .i64 0, .bool false]
set_option maxRecDepth 100000 in
set_option maxHeartbeats 1000000 in
theorem rsmall_any (s : Int) (neg : Bool) (A : Option Addr) (n c : Nat) (z : Int) (w : World) (h : RI w s neg A n c z) (hn : n ≤ 1000000) :
    Calls Try.prog 31 #[.agg #[.int .i64 s, .bool neg, .slice A n c]] w fun e w' => e = .returned (smallV z) ∧ Below w.heap.size w w' := by
  obtain ⟨l, -, -, -, -, ⟨rfl, rfl, rfl, -⟩ | ⟨h1, rfl, h3, -, -, h6⟩⟩ := h
  · by_cases g1 : 1152921504606846976 < s
    · have e : smallV s = .tuple #[.int .i64 0, .bool false] := if_neg (by omega)
      rw [e]; clear e
      have hd := decide_eq_true g1
      clear g1
      go_enter Try.func31, Try.ntmps31
      go_wp2_with fail
      go_ret2
      exact ⟨rfl, below_alloc w _⟩
    · by_cases g2 : s < -1152921504606846976
      · have e : smallV s = .tuple #[.int .i64 0, .bool false] := if_neg (by omega)
        rw [e]; clear e
        have hd := decide_eq_false g1
        have hd2 := decide_eq_true g2
        clear g1 g2
        go_enter Try.func31, Try.ntmps31
        go_wp2_with fail
        go_ret2
        exact ⟨rfl, below_alloc w _⟩
      · have e : smallV s = .tuple #[.int .i64 s, .bool true] := if_pos (by omega)
        rw [e]; clear e
        have hd := decide_eq_false g1
        have hd2 := decide_eq_false g2
        clear g1 g2
        go_enter Try.func31, Try.ntmps31
        go_wp2_with fail
        go_ret2
        exact ⟨rfl, below_alloc w _⟩
  · have e : smallV z = .tuple #[.int .i64 0, .bool false] := if_neg (by rw [Edge_eq] at h6; omega)
    rw [e]
    clear e h6 h3
    go_enter Try.func31, Try.ntmps31
    go_wp2_with fail
    go_ret2
    exact ⟨rfl, below_alloc w _⟩

end Go.Proofs.Ytfhmhkbjcccejaa

namespace Go.Proofs.Ytfhmhkbjcccejaa
open Go.RowKit

theorem Lc.at {w : World} {b off : Nat} {l : List Nat} (h : Lc w (some ⟨b, off, none⟩) l) {i : Nat} (hi : i < l.length) : w.cell? ⟨b, off + i, none⟩ = some (.int .i64 ((l.getD i 0 : Nat) : Int)) := by
  obtain ⟨b', off', hA, -, hc⟩ := h (by omega)
  injection hA with hA
  injection hA with e1 e2
  subst e1 e2
  exact hc i hi

theorem val_drop_le (l : List Nat) (k : Nat) : val (l.drop k) ≤ val l := by
  by_cases h : k ≤ l.length
  · rw [val_split l h]
    have h1 : 1 * val (l.drop k) ≤ Bs ^ k * val (l.drop k) := Nat.mul_le_mul_right _ (Bs_pow_pos k)
    omega
  · rw [List.drop_of_length_le (by omega)]
    exact Nat.zero_le _

/-- What a digit and the ones above it are. -/
theorem val_three {l : List Nat} (h : l.length = 3) : val l = val (l.take 2) + Bs ^ 2 * l.getD 2 0 := by
  rw [← val_take_succ, val_take_all (by omega)]

theorem small_three {l : List Nat} (hd : Dl l) (h : l.length = 3) : l.getD 2 0 < 2 ↔ val l < Edge := by
  have h1 := val_lt (hd.take 2)
  rw [List.length_take, h] at h1
  have e : Bs ^ 2 = 1152921504606846976 := by rw [Bs_eq]
  rw [val_three h, Edge_eq]
  simp only [show min 2 3 = 2 from rfl, e] at h1 ⊢
  omega
theorem small_two {l : List Nat} (hd : Dl l) (h : l.length ≤ 2) : val l < Edge := by
  have h1 := val_lt hd
  have h2 : Bs ^ l.length ≤ Bs ^ 2 := Nat.pow_le_pow_right Bs_pos h
  have e : Bs ^ 2 = 1152921504606846976 := by rw [Bs_eq]
  rw [e] at h2
  rw [Edge_eq]
  omega
theorem big_four {l : List Nat} (hz : Nz l) (h : 4 ≤ l.length) : Edge ≤ val l := by
  have h1 := Nz_ge hz (by intro e; rw [e] at h; simp at h)
  have h2 : Bs ^ 3 ≤ Bs ^ (l.length - 1) := Nat.pow_le_pow_right Bs_pos (by omega)
  have e : Bs ^ 3 = 1237940039285380274899124224 := by rw [Bs_eq]
  rw [e] at h2
  rw [Edge_eq]
  omega

/-- The integer with a sign and an absolute value. -/
def sgz (neg : Bool) (x : Nat) : Int := if neg then -(x : Int) else (x : Int)
theorem sgz_abs (neg : Bool) (x : Nat) : (sgz neg x).natAbs = x := by cases neg <;> simp [sgz]

/-- A row of digits without zeros at its end is an integer with digits. -/
theorem RI.big {w : World} {A : Option Addr} {c : Nat} {l : List Nat} {neg : Bool} (hc : l.length ≤ c ∧ c ≤ 9223372036854775807) (hd : Dl l) (hA : Lc w A l) (hz : Nz l) (h : Edge ≤ val l) : RI w 0 neg A l.length c (sgz neg (val l)) := by
  refine ⟨l, rfl, hc, hd, hA, Or.inr ⟨?_, rfl, ?_, hz, (sgz_abs _ _).symm, by rw [sgz_abs]; exact h⟩⟩
  · rcases List.eq_nil_or_concat l with h1 | ⟨_, _, h1⟩
    · rw [h1, Edge_eq] at h; simp [val] at h
    · rw [h1]; simp
  · rw [Edge_eq] at h
    cases neg
    · exact (decide_eq_false (by simp [sgz])).symm
    · exact (decide_eq_true (by simp [sgz]; omega)).symm

set_option maxRecDepth 100000 in
set_option maxHeartbeats 4000000 in
theorem made_any (neg : Bool) (A : Option Addr) (n c : Nat) (l0 : List Nat) (w : World) (hl0 : l0.length = n) (hn : n ≤ c) (hc : c ≤ 9223372036854775807) (hd0 : Dl l0) (hA : Lc w A l0) :
    Calls Try.prog 63 #[.bool neg, .slice A n c] w (RetI (sgz neg (val l0)) w) := by
  have HL0 := Lib.hid hl0
  have HD0 := Lib.hid hd0
  clear hl0 hd0
  go_enter Try.func63, Try.ntmps63
  go_upto_block 0 with fail
  generalize hX : w.alloc _ = X
  have HX : Hid (Below w.heap.size w X ∧ W3 w.heap.size X ∧ Lc X A l0) := by
    subst hX
    exact ⟨below_alloc w _, W3.new w _ _ _ rfl, hA.keep (below_alloc w _)⟩
  clear hX hA
  go_cut [1] (fun s wx => X = wx ∧ ∃ k : Nat, k ≤ n ∧ s = .slice A k c ∧ Hid (Nz (l0.take k) ∧ val (l0.take k) = val l0))
  case first =>
    go_wp2_with fail
    go_loop [1] (fun s => ∃ k : Nat, k ≤ n ∧ s = .slice A k c ∧ Hid (val (l0.take k) = val l0)) (fun s => slen s)
    case atStart => exact ⟨n, Nat.le_refl _, rfl, by rw [← HL0.out]; exact val_take_all (Nat.le_refl _)⟩
    case round =>
      obtain ⟨k, hk, rfl, hv⟩ := hrel
      rcases Nat.eq_zero_or_pos k with h0 | h0
      · subst h0
        go_wp2_with fail
        go_meet
        exact ⟨rfl, 0, Nat.zero_le _, rfl, Or.inl rfl, hv.out⟩
      · obtain ⟨b, off, hA', hb, hcell⟩ := HX.out.2.2 (by rw [HL0.out]; omega)
        subst hA'
        have hcell1 := hcell (k - 1) (by rw [HL0.out]; omega)
        clear hcell
        obtain ⟨x, hx⟩ : ∃ x, l0.getD (k - 1) 0 = x := ⟨_, rfl⟩
        rw [hx] at hcell1
        have HX1 := Lib.hid hx
        clear hx
        by_cases hz : x = 0
        · have hv2 : Hid (val (l0.take (k - 1)) = val l0) := by
            have := hv.out
            obtain ⟨m, rfl⟩ : ∃ m, k = m + 1 := ⟨k - 1, by omega⟩
            rw [val_take_succ] at this
            have h2 := HX1.out
            simp only [Nat.add_sub_cancel] at h2 ⊢
            rw [h2, hz] at this
            show val (l0.take m) = val l0
            simpa using this
          subst hz
          go_wp2_with fail
          exact ⟨⟨k - 1, by omega, rfl, hv2⟩, by simp [slen]; omega⟩
        · have hz2 : ((x : Int) == 0) = false := by simpa using hz
          have HZ := Lib.hid hz
          clear hz
          go_wp2_with fail
          go_meet
          refine ⟨rfl, k, hk, rfl, Or.inr ?_, hv.out⟩
          rw [List.length_take, Nat.min_eq_left (by rw [HL0.out]; exact hk), getD_take (by omega), HX1.out]
          exact HZ.out
  case rest =>
    obtain ⟨rfl, k, hk, rfl, hNZ⟩ := hcut
    obtain ⟨L, hL⟩ : ∃ L, l0.take k = L := ⟨_, rfl⟩
    have HLL : Hid (L.length = k) := by
      show L.length = k
      rw [← hL, List.length_take, HL0.out]
      omega
    have HLD : Hid (Dl L) := by rw [← hL]; exact HD0.out.take k
    have HLC : Hid (Lc X A L) := by rw [← hL]; exact HX.out.2.2.take k
    have HLZ : Hid (Nz L) := by rw [← hL]; exact hNZ.out.1
    have HLV : Hid (val L = val l0) := by rw [← hL]; exact hNZ.out.2
    clear hNZ hL
    rcases Nat.lt_or_ge 3 k with h4 | h4
    · have HE : Hid (Edge ≤ val L) := big_four HLZ.out (by rw [HLL.out]; omega)
      obtain ⟨⟨p1, p2, p3, p4, p5, p6⟩, p7, p8, p9, p10⟩ := HX.out.2.1
      have HP10 := Lib.hid p10
      clear p10
      have HBIG := Lib.hid (RI.big (neg := neg) (c := c) ⟨by rw [HLL.out]; omega, hc⟩ HLD.out HLC.out HLZ.out HE.out)
      go_wp2_with fail
      exact bodyPost_ret (v := .agg #[.int .i64 0, .bool neg, .slice A k c]) (by simp [results, Try.results63, go_sem, *]) rfl (by
        rw [← HLV.out, ← HLL.out]
        exact retI_box HBIG.out HP10.out HX.out.1 (Nat.le_refl _))
    · by_cases h3 : k = 3
      · have g1 : ((k : Int) == 3) = true := by rw [h3]; rfl
        have g2 : 2 < (k : Int) := by omega
        have HT := Lib.hid (small_three HLD.out (by rw [HLL.out, h3]))
        have HK3 := Lib.hid h3
        clear h3
        obtain ⟨b, off, hA', -, hcells⟩ := HLC.out (by rw [HLL.out]; omega)
        subst hA'
        have hc2 := hcells 2 (by rw [HLL.out]; omega)
        clear hcells
        obtain ⟨x, hx⟩ : ∃ x, L.getD 2 0 = x := ⟨_, rfl⟩
        rw [hx] at hc2
        have HX2 := Lib.hid hx
        clear hx
        by_cases h2 : x < 2
        · have HE : Hid (val L < 2305843009213693952) := HT.out.1 (by rw [HX2.out]; exact h2)
          have hd : decide (2 ≤ (x : Int)) = false := decide_eq_false (by omega)
          clear h2
          go_wp2_with fail
          go_loop [5, 6] (fun s i => ∃ j : Nat, j ≤ k ∧ s = .int .i64 ((val (L.drop j) : Nat) : Int) ∧ i = .int .i64 ((j : Int) - 1)) (fun _ i => (intOf i + 1).toNat)
          case atStart => exact ⟨k, Nat.le_refl _, by rw [List.drop_of_length_le (by rw [HLL.out]; omega)]; rfl, rfl⟩
          case round =>
            obtain ⟨j, hj, rfl, rfl⟩ := hrel
            rcases Nat.eq_zero_or_pos j with h0 | h0
            · subst h0
              rw [show (((0 : Nat) : Int) - 1) = -1 from rfl, List.drop_zero]
              have hvl : val L < 2305843009213693952 := HE.out
              have HV2 := Lib.hid (HLV.out)
              generalize hvx : val L = x at hvl HV2 ⊢
              clear hvx
              have hwr : IntKind.i64.wrap (-(x : Int)) = -(x : Int) := IntWalk.i64_in _ (by omega)
              obtain ⟨⟨p1, p2, p3, p4, p5, p6⟩, p7, p8, p9, p10⟩ := HX.out.2.1
              have HP10 := Lib.hid p10
              clear p10
              cases neg
              · go_wp2_with fail
                exact bodyPost_ret (v := .agg #[.int .i64 (x : Int), .bool false, .slice none 0 0]) (by simp [results, Try.results63, go_sem, *]) rfl (retI_box (by rw [← HV2.out]; exact RI.small _ (by rw [Edge_eq]; omega) _ _ (Nat.zero_le _)) HP10.out HX.out.1 (Nat.le_refl _))
              · go_wp2_with fail
                exact bodyPost_ret (v := .agg #[.int .i64 (-(x : Int)), .bool false, .slice none 0 0]) (by simp [results, Try.results63, go_sem, *]) rfl (retI_box (by rw [← HV2.out]; exact RI.small _ (by rw [Edge_eq]; omega) _ _ (Nat.zero_le _)) HP10.out HX.out.1 (Nat.le_refl _))
            · obtain ⟨m, rfl⟩ : ∃ m, j = m + 1 := ⟨j - 1, by omega⟩
              have ej : (((m + 1 : Nat) : Int) - 1) = (m : Int) := by omega
              rw [ej]
              clear ej h0
              have hc1 := HLC.out.at (i := m) (by rw [HLL.out]; omega)
              have hstep : Hid (val (L.drop m) = L.getD m 0 + Bs * val (L.drop (m + 1))) := val_drop (by rw [HLL.out]; omega)
              have hle : val (L.drop m) < 2305843009213693952 := Nat.lt_of_le_of_lt (val_drop_le L m) HE.out
              rw [hstep.out, Bs_eq] at hle
              obtain ⟨x, hx⟩ : ∃ x, L.getD m 0 = x := ⟨_, rfl⟩
              obtain ⟨y, hy⟩ : ∃ y, val (L.drop (m + 1)) = y := ⟨_, rfl⟩
              rw [hx] at hc1
              rw [hx, hy] at hle
              rw [hy]
              have HX1 := Lib.hid hx
              have HY1 := Lib.hid hy
              clear hx hy
              go_wp2_with fail
              exact ⟨⟨m, by omega, int_eq (by rw [hstep.out, HX1.out, HY1.out, Bs_eq]; omega), rfl⟩, by simp [intOf]⟩
        · have HE : Hid (Edge ≤ val L) := by
            have := HT.out
            rw [HX2.out] at this
            show Edge ≤ val L
            omega
          have hd : decide (2 ≤ (x : Int)) = true := decide_eq_true (by omega)
          clear h2
          obtain ⟨⟨p1, p2, p3, p4, p5, p6⟩, p7, p8, p9, p10⟩ := HX.out.2.1
          have HP10 := Lib.hid p10
          clear p10
          have HBIG := Lib.hid (RI.big (neg := neg) (c := c) ⟨by rw [HLL.out]; omega, hc⟩ HLD.out HLC.out HLZ.out HE.out)
          go_wp2_with fail
          exact bodyPost_ret (v := .agg #[.int .i64 0, .bool neg, .slice (some ⟨b, off, none⟩) k c]) (by simp [results, Try.results63, go_sem, *]) rfl (by
            rw [← HLV.out, ← HLL.out]
            exact retI_box HBIG.out HP10.out HX.out.1 (Nat.le_refl _))
      · have HE : Hid (val L < 2305843009213693952) := small_two HLD.out (by rw [HLL.out]; omega)
        have hk2 : k < 3 := by omega
        clear h4 h3
        go_wp2_with fail
        go_loop [5, 6] (fun s i => ∃ j : Nat, j ≤ k ∧ s = .int .i64 ((val (L.drop j) : Nat) : Int) ∧ i = .int .i64 ((j : Int) - 1)) (fun _ i => (intOf i + 1).toNat)
        case atStart => exact ⟨k, Nat.le_refl _, by rw [List.drop_of_length_le (by rw [HLL.out]; omega)]; rfl, rfl⟩
        case round =>
          obtain ⟨j, hj, rfl, rfl⟩ := hrel
          rcases Nat.eq_zero_or_pos j with h0 | h0
          · subst h0
            rw [show (((0 : Nat) : Int) - 1) = -1 from rfl, List.drop_zero]
            have hvl : val L < 2305843009213693952 := HE.out
            have HV2 := Lib.hid (HLV.out)
            generalize hvx : val L = x at hvl HV2 ⊢
            clear hvx
            have hwr : IntKind.i64.wrap (-(x : Int)) = -(x : Int) := IntWalk.i64_in _ (by omega)
            obtain ⟨⟨p1, p2, p3, p4, p5, p6⟩, p7, p8, p9, p10⟩ := HX.out.2.1
            have HP10 := Lib.hid p10
            clear p10
            cases neg
            · go_wp2_with fail
              exact bodyPost_ret (v := .agg #[.int .i64 (x : Int), .bool false, .slice none 0 0]) (by simp [results, Try.results63, go_sem, *]) rfl (retI_box (by rw [← HV2.out]; exact RI.small _ (by rw [Edge_eq]; omega) _ _ (Nat.zero_le _)) HP10.out HX.out.1 (Nat.le_refl _))
            · go_wp2_with fail
              exact bodyPost_ret (v := .agg #[.int .i64 (-(x : Int)), .bool false, .slice none 0 0]) (by simp [results, Try.results63, go_sem, *]) rfl (retI_box (by rw [← HV2.out]; exact RI.small _ (by rw [Edge_eq]; omega) _ _ (Nat.zero_le _)) HP10.out HX.out.1 (Nat.le_refl _))
          · obtain ⟨m, rfl⟩ : ∃ m, j = m + 1 := ⟨j - 1, by omega⟩
            have ej : (((m + 1 : Nat) : Int) - 1) = (m : Int) := by omega
            rw [ej]
            clear ej h0
            obtain ⟨b, off, rfl, -, hcells⟩ := HLC.out (by rw [HLL.out]; omega)
            have hc1 := hcells m (by rw [HLL.out]; omega)
            clear hcells
            have hstep : Hid (val (L.drop m) = L.getD m 0 + Bs * val (L.drop (m + 1))) := val_drop (by rw [HLL.out]; omega)
            have hle : val (L.drop m) < 2305843009213693952 := Nat.lt_of_le_of_lt (val_drop_le L m) HE.out
            rw [hstep.out, Bs_eq] at hle
            obtain ⟨x, hx⟩ : ∃ x, L.getD m 0 = x := ⟨_, rfl⟩
            obtain ⟨y, hy⟩ : ∃ y, val (L.drop (m + 1)) = y := ⟨_, rfl⟩
            rw [hx] at hc1
            rw [hx, hy] at hle
            rw [hy]
            have HX1 := Lib.hid hx
            have HY1 := Lib.hid hy
            clear hx hy
            go_wp2_with fail
            exact ⟨⟨m, by omega, int_eq (by rw [hstep.out, HX1.out, HY1.out, Bs_eq]; omega), rfl⟩, by simp [intOf]⟩

end Go.Proofs.Ytfhmhkbjcccejaa

namespace Go.Proofs.Ytfhmhkbjcccejaa
open Go.RowKit

/-- What has been taken off after k digits. -/
def LstR (B : Nat) (w : World) (z : Nat) (o m : Value) (wr : World) : Prop :=
  ∃ (r : Nat) (l : List Nat), m = .int .i64 (r : Int) ∧ Own wr B o l ∧ Dl l ∧ (r = 0 → Nz l) ∧ l.length ≤ 3 ∧ val l + Bs ^ l.length * r = z ∧ Below B w wr
theorem LstR.next {B : Nat} {w w' : World} {z r : Nat} {l : List Nat} {o m : Value} {M : Int} (hz : z < Bs ^ 3) (hd : Dl l) (hr : 0 < r) (hv : val l + Bs ^ l.length * r = z) (hbel : Below B w w') (hown : Own w' B o (l ++ [r % Bs])) (hm : m = .int .i64 M) (hM : M = ((r / Bs : Nat) : Int)) : LstR B w z o m w' := by
  subst hm hM
  have h1 : l.length < 3 := by
    rcases Nat.lt_or_ge l.length 3 with h | h
    · exact h
    · have h2 : Bs ^ 3 ≤ Bs ^ l.length := Nat.pow_le_pow_right Bs_pos h
      have h3 : Bs ^ l.length * 1 ≤ Bs ^ l.length * r := Nat.mul_le_mul_left _ hr
      omega
  have h3 := Nat.div_add_mod r Bs
  refine ⟨r / Bs, _, rfl, hown, hd.snoc (Nat.mod_lt _ Bs_pos), fun h => Or.inr ?_, by simp; omega, ?_, hbel⟩
  · rw [List.length_append, List.length_singleton, Nat.add_sub_cancel, getD_snoc_new]
    rw [h, Nat.mul_zero] at h3
    omega
  · rw [val_snoc, List.length_append, List.length_singleton, Nat.pow_succ, Nat.mul_assoc, Nat.add_assoc, ← Nat.mul_add, Nat.add_comm (_ % _), h3]
    exact hv
theorem Edge_lt : Edge < Bs ^ 3 := by rw [Edge_eq, Bs_eq]; decide

set_option maxRecDepth 100000 in
set_option maxHeartbeats 2000000 in
theorem rlist_any (s : Int) (neg : Bool) (A : Option Addr) (n c : Nat) (z : Int) (w : World) (h : RI w s neg A n c z) (hn : n ≤ 1000000) :
    Calls Try.prog 62 #[.agg #[.int .i64 s, .bool neg, .slice A n c]] w (RetL (fun l => Nz l ∧ val l = z.natAbs) w) := by
  obtain ⟨l0, h1, h2, h3, h4, ⟨rfl, rfl, rfl, h5⟩ | ⟨h5, rfl, h6, h7, h8, h9⟩⟩ := h
  · have hs1 : -2305843009213693952 < s := by rw [Edge_eq] at h5; omega
    have hs2 : s < 2305843009213693952 := by rw [Edge_eq] at h5; omega
    have hmax : max s (-s) = ((s.natAbs : Nat) : Int) := by omega
    have hzz : s.natAbs < Bs ^ 3 := Nat.lt_trans h5 Edge_lt
    have HZZ := Lib.hid hzz
    have hzb : s.natAbs < 2305843009213693952 := h5
    obtain ⟨x, hx⟩ : ∃ x, s.natAbs = x := ⟨_, rfl⟩
    rw [hx] at hmax HZZ hzb
    have HX := Lib.hid hx
    clear h1 h2 h3 h4 h5 hzz hx
    rw [HX.out]
    have HB := Lib.hid (below_alloc w (.cells #[.int .i64 s, .bool false, .slice A 0 c] 36))
    go_enter Try.func62, Try.ntmps62
    go_wp2_with fail
    go_loopw [3, 4] (fun o m wr => LstR w.heap.size w x o m wr) (fun _ m _ => (intOf m).toNat)
    case atStart => exact ⟨x, [], rfl, Own.nil _ _, Dl.nil, fun _ => Or.inl rfl, by simp, by simp [val], HB.out⟩
    case round =>
      obtain ⟨r, l, rfl, hown, hd, hnz, hl, hv, hbel⟩ := hrel
      have hrx : r ≤ x := by
        have : 1 * r ≤ Bs ^ l.length * r := Nat.mul_le_mul_right _ (Bs_pow_pos _)
        omega
      have hll : l.length ≤ 1000000 := by omega
      have hsz := hbel.size
      have HBL := Lib.hid hbel
      have HV := Lib.hid hv
      have HD := Lib.hid hd
      have HNZ := Lib.hid hnz
      clear hbel hv hd hnz hmax
      rcases Nat.eq_zero_or_pos r with h0 | h0
      · subst h0
        go_wp2_with fail
        go_ret
        exact ⟨_, l, rfl, hown.ls HD.out, ⟨HNZ.out (by trivial), by have := HV.out; rw [Nat.mul_zero] at this; omega⟩, HBL.out⟩
      · go_wp2_with (at_builtin; refine wpList_push rfl _ _ rfl w.heap.size _ l rfl (hown.alloc _) wr.heap.size rfl _ (cell_new _ _ _) (r % Bs) (by rw [Bs_eq]; omega) hll (by simp; omega) (fun v' w' hown' hkeep => ?_))
        have HO := Lib.hid hown'
        have HKp := Lib.hid (hkeep w (HBL.out.alloc hsz _))
        clear hown' hkeep
        go_wp2_with fail
        go_roundw
        case rel => exact LstR.next HZZ.out HD.out h0 HV.out HKp.out HO.out rfl (by rw [Bs_eq]; omega)
        case measure => simp [intOf]; omega
  · have HR : Hid (∀ wx, Below w.heap.size w wx → RetL (fun l => Nz l ∧ val l = z.natAbs) w (.returned (.slice A n c)) wx) := fun wx hb => ⟨_, l0, rfl, ⟨A, c, by rw [h1], by rw [h1]; exact h2, h3, h4.keep hb⟩, ⟨h7, h8⟩, hb⟩
    clear h1 h2 h3 h4 h6 h7 h8 h9
    go_enter Try.func62, Try.ntmps62
    go_wp2_with fail
    go_ret
    exact HR.out _ (below_alloc w _)

end Go.Proofs.Ytfhmhkbjcccejaa

namespace Go.Proofs.Ytfhmhkbjcccejaa
open Go.RowKit

theorem Own.lit (w : World) {B : Nat} (hB : B ≤ w.heap.size) {X : Int} {d : Nat} (hX : X = (d : Int)) : Own (w.alloc (.cells #[.int .i64 X] 3)) B (.slice (some ⟨w.heap.size, 0, none⟩) 1 1) [d] := by
  subst hX
  exact ⟨rfl, Or.inr ⟨w.heap.size, 1, #[.int .i64 (d : Int)], rfl, hB, heap_alloc_new w _, Nat.le_refl _, by unfold maxLen; omega, rfl, rfl⟩⟩

/-- The same for a negative int. -/
def LstN (B : Nat) (w : World) (z : Nat) (m o : Value) (wr : World) : Prop :=
  ∃ (M : Int) (r : Nat) (l : List Nat), m = .int .i64 M ∧ Hid (M = -(r : Int)) ∧ Own wr B o l ∧ Dl l ∧ (r = 0 → Nz l) ∧ l.length ≤ 3 ∧ val l + Bs ^ l.length * r = z ∧ Below B w wr
theorem LstN.of {B : Nat} {w w' : World} {z r : Nat} {o m m' : Value} (h : LstR B w z o m' w') (h' : m' = .int .i64 (r : Int)) {M : Int} (hm : m = .int .i64 M) (hM : M = -(r : Int)) : LstN B w z m o w' := by
  obtain ⟨r', l, h1, h2⟩ := h
  rw [h'] at h1
  injection h1 with _ h1
  have : r = r' := by omega
  subst this
  exact ⟨M, r, l, hm, hM, h2⟩

theorem RI.list {w : World} {A : Option Addr} {n c : Nat} {l : List Nat} {z : Int} {v : Value} {B : Nat} (hown : Own w B v l) (hv : v = .slice A n c) (hd : Dl l) (hz : Nz l) (hval : val l = z.natAbs) (he : Edge ≤ z.natAbs) : RI w 0 (decide (z < 0)) A n c z := by
  obtain ⟨A', c', e, h1, h2, h3⟩ := hown.ls hd
  rw [hv] at e
  injection e with e1 e2 e3
  subst e1 e2 e3
  refine ⟨l, rfl, h1, hd, h3, Or.inr ⟨?_, rfl, rfl, hz, hval, he⟩⟩
  rcases List.eq_nil_or_concat l with h | ⟨_, _, h⟩
  · rw [h, val_nil] at hval; rw [← hval, Edge_eq] at he; omega
  · rw [h]; simp

theorem rof_small (n : Int) (w : World) (h : n.natAbs < Edge) : Calls Try.prog 29 #[.int .i64 n] w (RetI n w) := by
  rw [Edge_eq] at h
  have HR : Hid (∀ wx, Below w.heap.size w wx → RetI n w (.returned (.agg #[.int .i64 n, .bool false, .slice none 0 0])) wx) := fun wx hb => retI (RI.small wx (by rw [Edge_eq]; exact h) none 0 (Nat.zero_le _)) hb
  have h1 : decide (-2305843009213693952 < n) = true := decide_eq_true (by omega)
  have h2 : decide (n < 2305843009213693952) = true := decide_eq_true (by omega)
  clear h
  go_enter Try.func29, Try.ntmps29
  go_wp2_with fail
  exact bodyPost_ret (v := .agg #[.int .i64 n, .bool false, .slice none 0 0]) (by simp [results, Try.results29, go_sem]) rfl (HR.out _ (below_alloc w _))

set_option maxRecDepth 100000 in
set_option maxHeartbeats 4000000 in
theorem rof_pos (x : Nat) (w : World) (h1 : Edge ≤ x) (h2 : x ≤ 9223372036854775807) : Calls Try.prog 29 #[.int .i64 (x : Int)] w (RetI (x : Int) w) := by
  have HE := Lib.hid h1
  rw [Edge_eq] at h1
  have g1 : decide (-2305843009213693952 < (x : Int)) = true := decide_eq_true (by omega)
  have g2 : decide ((x : Int) < 2305843009213693952) = false := decide_eq_false (by omega)
  have gs : decide ((x : Int) < 0) = false := decide_eq_false (by omega)
  have HZZ : Hid (x < Bs ^ 3) := by
    show x < Bs ^ 3
    rw [Bs_eq]; omega
  have hmx : max ((x : Int) % 1073741824) (-((x : Int) % 1073741824)) = ((x % 1073741824 : Nat) : Int) := by omega
  have H2 := Lib.hid h2
  clear h1 
  go_enter Try.func29, Try.ntmps29
  go_upto_region 3 with fail
  generalize hX : w.alloc _ = X
  have HX : Hid (Below w.heap.size w X ∧ W3 w.heap.size X ∧ w.heap.size ≤ X.heap.size) := by
    subst hX
    exact ⟨below_alloc w _, W3.new w _ _ _ rfl, by simp⟩
  clear hX
  have hXs := HX.out.2.2
  go_wp2_with fail
  go_loopw [4, 5] (fun m o wr => LstR X.heap.size X x o m wr) (fun m _ _ => (intOf m).natAbs)
  case atStart => exact ⟨x / Bs, [x % Bs], rfl, Own.lit X (Nat.le_refl _) rfl, Dl.nil.snoc (Nat.mod_lt _ Bs_pos), fun h => absurd h (by rw [Bs_eq]; have := HE.out; rw [Edge_eq] at this; omega), by simp, by rw [val_one]; simp only [List.length_singleton, Nat.pow_one]; exact Nat.mod_add_div x Bs, below_alloc X _⟩
  case round =>
    obtain ⟨r, l, rfl, hown, hd, hnz, hl, hv, hbel⟩ := hrel
    have hrx : r ≤ x := by
      have : 1 * r ≤ Bs ^ l.length * r := Nat.mul_le_mul_right _ (Bs_pow_pos _)
      omega
    have hll : l.length ≤ 1000000 := by omega
    have hsz := hbel.size
    have HBL := Lib.hid hbel
    have HV := Lib.hid hv
    have HD := Lib.hid hd
    have HNZ := Lib.hid hnz
    clear hbel hv hd hnz hmx 
    rcases Nat.eq_zero_or_pos r with h0 | h0
    · subst h0
      skip
      obtain ⟨A', c', rfl, hlc, hd', hLc⟩ := hown.ls HD.out
      have hval : val l = x := by have := HV.out; rw [Nat.mul_zero] at this; omega
      have hln : 0 < l.length := by
        rcases List.eq_nil_or_concat l with h | ⟨_, _, h⟩
        · have h5 := HE.out
          rw [h, val_nil] at hval
          rw [← hval, Edge_eq] at h5
          omega
        · rw [h]; simp
      have HRI : Hid (RI wr 0 false A' l.length c' (x : Int)) := ⟨l, rfl, hlc, hd', hLc, Or.inr ⟨hln, rfl, gs.symm, HNZ.out (by trivial), by rw [hval]; omega, by have h5 := HE.out; omega⟩⟩
      have HTB := Lib.hid (HX.out.1.trans (HBL.out.mono hXs))
      obtain ⟨⟨p1, p2, p3, p4, p5, p6⟩, p7, p8, p9, p10⟩ := HX.out.2.1.keep HBL.out
      have HP10 := Lib.hid p10
      have HLN := Lib.hid hln
      clear p10 hlc hd' hLc hval hln
      go_wp2_with fail
      exact bodyPost_ret (v := .agg #[.int .i64 0, .bool false, .slice A' l.length c']) (by simp [results, Try.results29, go_sem, *]) rfl (retI_box HRI.out HP10.out HTB.out (Nat.le_refl _))
    · skip
      have hmr : max ((r : Int) % 1073741824) (-((r : Int) % 1073741824)) = ((r % 1073741824 : Nat) : Int) := by omega
      have hne : ((r : Int) != 0) = true := by rw [bne_iff_ne]; omega
      go_wp2_with (at_builtin; refine wpList_push rfl _ _ rfl X.heap.size _ l rfl (hown.alloc _) wr.heap.size rfl _ (cell_new _ _ _) (r % Bs) (by first | rfl | (rw [Bs_eq]; first | rfl | omega)) hll (by simp; omega) (fun v' w' hown' hkeep => ?_))
      have HO := Lib.hid hown'
      have HKp := Lib.hid (hkeep X (HBL.out.alloc hsz _))
      clear hown' hkeep
      go_wp2_with fail
      go_roundw
      case rel => exact LstR.next HZZ.out HD.out h0 HV.out HKp.out HO.out rfl (by rw [Bs_eq]; omega)
      case measure => simp [intOf]; omega

set_option maxRecDepth 100000 in
set_option maxHeartbeats 4000000 in
theorem rof_neg (x : Nat) (N : Int) (hN : N = -(x : Int)) (w : World) (h1 : Edge ≤ x) (h2 : x ≤ 9223372036854775808) : Calls Try.prog 29 #[.int .i64 N] w (RetI N w) := by
  have HE := Lib.hid h1
  have HN := Lib.hid hN
  rw [Edge_eq] at h1
  have g1 : decide (-2305843009213693952 < N) = false := decide_eq_false (by omega)
  have g2 : decide (N < 2305843009213693952) = true := decide_eq_true (by omega)
  have gs : decide (N < 0) = true := decide_eq_true (by omega)
  have HZZ : Hid (x < Bs ^ 3) := by
    show x < Bs ^ 3
    rw [Bs_eq]; omega
  obtain ⟨p, hp⟩ : ∃ p, x % 1073741824 = p := ⟨_, rfl⟩
  obtain ⟨q, hq⟩ : ∃ q, x / 1073741824 = q := ⟨_, rfl⟩
  have hp1 : p < 1073741824 := by omega
  have hq1 : q ≤ 8589934592 := by omega
  have e1 : N.tmod 1073741824 = -(p : Int) := by rw [hN, Int.neg_tmod, ← hp]; rfl
  have e2 : N.tdiv 1073741824 = -(q : Int) := by rw [hN, Int.neg_tdiv, ← hq]; rfl
  have HP := Lib.hid hp
  have HQ := Lib.hid hq
  clear hp hq
  have hmx : max (-(p : Int)) (p : Int) = (p : Int) := by omega
  have H2 := Lib.hid h2
  clear h1 h2 hN
  go_enter Try.func29, Try.ntmps29
  go_upto_region 3 with fail
  generalize hX : w.alloc _ = X
  have HX : Hid (Below w.heap.size w X ∧ W3 w.heap.size X ∧ w.heap.size ≤ X.heap.size) := by
    subst hX
    exact ⟨below_alloc w _, W3.new w _ _ _ rfl, by simp⟩
  clear hX
  have hXs := HX.out.2.2
  go_wp2_with fail
  go_loopw [4, 5] (fun m o wr => LstN X.heap.size X x m o wr) (fun m _ _ => (intOf m).natAbs)
  case atStart => exact ⟨-(q : Int), q, [p], rfl, rfl, Own.lit X (Nat.le_refl _) rfl, Dl.nil.snoc (by rw [Bs_eq]; exact hp1), fun h => absurd h (by have := HE.out; have h7 := HQ.out; rw [Edge_eq] at this; omega), by simp, by rw [val_one]; simp only [List.length_singleton, Nat.pow_one]; have h7 := HP.out; have h8 := HQ.out; rw [Bs_eq]; omega, below_alloc X _⟩
  case round =>
    obtain ⟨M, r, l, rfl, hM, hown, hd, hnz, hl, hv, hbel⟩ := hrel
    have hrx : r ≤ x := by
      have : 1 * r ≤ Bs ^ l.length * r := Nat.mul_le_mul_right _ (Bs_pow_pos _)
      omega
    have hll : l.length ≤ 1000000 := by omega
    have hsz := hbel.size
    have HBL := Lib.hid hbel
    have HV := Lib.hid hv
    have HD := Lib.hid hd
    have HNZ := Lib.hid hnz
    clear hbel hv hd hnz hmx e1 e2 hp1 hq1 HP HQ
    rcases Nat.eq_zero_or_pos r with h0 | h0
    · subst h0
      have hM0 : M = 0 := by have := hM.out; omega
      subst hM0
      obtain ⟨A', c', rfl, hlc, hd', hLc⟩ := hown.ls HD.out
      have hval : val l = x := by have := HV.out; rw [Nat.mul_zero] at this; omega
      have hln : 0 < l.length := by
        rcases List.eq_nil_or_concat l with h | ⟨_, _, h⟩
        · have h5 := HE.out
          rw [h, val_nil] at hval
          rw [← hval, Edge_eq] at h5
          omega
        · rw [h]; simp
      have HRI : Hid (RI wr 0 true A' l.length c' N) := ⟨l, rfl, hlc, hd', hLc, Or.inr ⟨hln, rfl, gs.symm, HNZ.out (by trivial), by rw [hval]; have h6 := HN.out; omega, by have h5 := HE.out; have h6 := HN.out; omega⟩⟩
      have HTB := Lib.hid (HX.out.1.trans (HBL.out.mono hXs))
      obtain ⟨⟨p1, p2, p3, p4, p5, p6⟩, p7, p8, p9, p10⟩ := HX.out.2.1.keep HBL.out
      have HP10 := Lib.hid p10
      have HLN := Lib.hid hln
      clear p10 hlc hd' hLc hval hln
      go_wp2_with fail
      exact bodyPost_ret (v := .agg #[.int .i64 0, .bool true, .slice A' l.length c']) (by simp [results, Try.results29, go_sem, *]) rfl (retI_box HRI.out HP10.out HTB.out (Nat.le_refl _))
    · skip
      obtain ⟨p, hp⟩ : ∃ p, r % 1073741824 = p := ⟨_, rfl⟩
      obtain ⟨q, hq⟩ : ∃ q, r / 1073741824 = q := ⟨_, rfl⟩
      have hp1 : p < 1073741824 := by omega
      have hq1 : q ≤ 8589934592 := by have := H2.out; omega
      have e1 : M.tmod 1073741824 = -(p : Int) := by rw [hM.out, Int.neg_tmod, ← hp]; rfl
      have e2 : M.tdiv 1073741824 = -(q : Int) := by rw [hM.out, Int.neg_tdiv, ← hq]; rfl
      have HP := Lib.hid hp
      have HQ := Lib.hid hq
      clear hp hq
      have hmr : max (-(p : Int)) (p : Int) = (p : Int) := by omega
      have hne : (M != 0) = true := by have := hM.out; rw [bne_iff_ne]; omega
      go_wp2_with (at_builtin; refine wpList_push rfl _ _ rfl X.heap.size _ l rfl (hown.alloc _) wr.heap.size rfl _ (cell_new _ _ _) (p) (by first | rfl | (rw [Bs_eq]; first | rfl | omega)) hll (by simp; omega) (fun v' w' hown' hkeep => ?_))
      have HO := Lib.hid hown'
      have HKp := Lib.hid (hkeep X (HBL.out.alloc hsz _))
      clear hown' hkeep
      go_wp2_with fail
      go_roundw
      case rel => exact LstN.of (r := q) (LstR.next HZZ.out HD.out h0 HV.out HKp.out (by have h7 := HP.out; rw [Bs_eq, h7]; exact HO.out) rfl (by have h7 := HQ.out; rw [Bs_eq, h7])) rfl rfl rfl
      case measure => have h7 := HQ.out; have h8 := hM.out; simp [intOf]; omega

end Go.Proofs.Ytfhmhkbjcccejaa
