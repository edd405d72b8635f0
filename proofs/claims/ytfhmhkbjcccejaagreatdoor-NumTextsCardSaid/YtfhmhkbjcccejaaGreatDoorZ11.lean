/- Decimal texts in memory: num.isDecimal and exact.Decimal. Plain facts on numbers that are written as lists of digits to the base 2^30, the least significant one first. Lists of digits of the reference in memory. The order of two lists of digits of the reference; digits 0 at the end. -/
import Derived.Test.YtfhmhkbjcccejaaGreatDoorZ00
import Derived.Test.YtfhmhkbjcccejaaGreatDoorZ02
import Derived.Test.YtfhmhkbjcccejaaGreatDoorZ10
import Derived.Deep.CutRange
import Derived.Laws.IdiomStrings
import Derived.Test.YtfhmhkbjcccejaaGreatDoorZ08
import Derived.Laws.AppendOwn
import Derived.IntWalk
import Derived.LoopTactic
import Derived.Deep.CutBlock
import Derived.Deep.DeepCutAuto

namespace Go.Proofs.YtfhmhkbjcccejaaGreatDoor
open Go.RowKit

/-- The bytes of a text, laid into memory. -/
theorem bytes_of (s : ByteArray) (w : World) : ∃ g cap w', (convert 9 72 (.string s)).run Tryz.prog w = .ok (.slice (some ⟨g, 0, none⟩) s.size cap) w' ∧ Below w.heap.size w w' ∧ g < w'.heap.size ∧
    ∀ j (hj : j < s.data.size), w'.cell? ⟨g, j, none⟩ = some (.int .u8 ((s.data[j]'hj).toNat : Int)) := by
  refine ⟨_, _, _, run_bytes_of_string w 9 72 5 s Tryz.underlying9 Tryz.underlying72 Tryz.underlying5, (Below.refl _ _).drew.alloc (Nat.le_refl _) _, by simp, fun j hj => ?_⟩
  show ((w.drew.alloc _)).cell? ⟨w.drew.heap.size, j, none⟩ = _
  rw [World.cell?_alloc_mark, bytesRow_at s _ j hj]

theorem getD_list (s : ByteArray) {j : Nat} (hj : j < s.data.size) : s.data.toList[j]? = some (s.data[j]'hj) := by
  rw [Array.getElem?_toList, Array.getElem?_eq_getElem hj]

theorem isDec_false {l : List UInt8} {j : Nat} {c : UInt8} (h : l[j]? = some c) (hc : isDg c = false) : isDec l = false := by
  unfold isDec
  cases e : l.all isDg with
  | false => rfl
  | true =>
    have := List.all_eq_true.1 e c (List.mem_of_getElem? h)
    rw [hc] at this
    cases this

set_option maxRecDepth 100000 in
set_option maxHeartbeats 4000000 in
theorem isDecimal_any (s : ByteArray) (w : World) (hs : s.size ≤ 1000) :
    Calls Tryz.prog 17 #[.string s] w fun e w' => e = .returned (.bool (isDec s.data.toList)) ∧ Below w.heap.size w w' := by
  obtain ⟨g, cap, W, hcv, hB, hg, hcell⟩ := bytes_of s w
  have HC := Lib.hid hcell
  have HB := Lib.hid hB
  clear hcell hB hg
  go_enter Tryz.func17, Tryz.ntmps17
  go_wp2_with fail
  clear hcv
  go_loopw [8] (fun i wr => ∃ k : Nat, Hid (k ≤ s.size) ∧ i = .int .i64 (k : Int) ∧ Hid (∀ j c, j < k → s.data.toList[j]? = some c → isDg c = true) ∧ wr = W) (fun i _ => s.size - (intOf i).toNat)
  case atStart => exact ⟨0, Nat.zero_le _, rfl, Lib.hid (fun j c hj => absurd hj (by omega)), rfl⟩
  case round =>
    obtain ⟨k, hk, rfl, hv, rfl⟩ := hrel
    by_cases hlt : k < s.size
    · have hlt' : (k : Int) < (s.size : Int) := by omega
      have hcell := HC.out k hlt
      have hget := getD_list s hlt
      generalize s.data[k] = c at hcell hget
      have hc8 : c.toNat < 256 := UInt8.toNat_lt c
      by_cases hd : isDg c = true
      · obtain ⟨d1, d2⟩ := isDg_le hd
        have e1 : decide (((c.toNat : Nat) : Int) < 48) = false := by simp; omega
        have e2 : decide ((57 : Int) < ((c.toNat : Nat) : Int)) = false := by simp; omega
        have HV : Hid (∀ j c, j < k + 1 → s.data.toList[j]? = some c → isDg c = true) := fun j c' hj h => by
          by_cases e : j = k
          · rw [e, hget] at h
            injection h with h
            rw [← h]; exact hd
          · exact hv.out j c' (by omega) h
        clear hv hd hget d1 d2
        go_wp2_with fail
        exact ⟨⟨k + 1, Lib.hid (by omega), by rw [show ((k + 1 : Nat) : Int) = (k : Int) + 1 from by omega], HV, trivial⟩, by simp only [intOf]; omega⟩
      · have hd' : isDg c = false := by simpa using hd
        have HE := Lib.hid (isDec_false hget hd')
        by_cases h1 : c.toNat < 48
        · have e1 : decide (((c.toNat : Nat) : Int) < 48) = true := by simp; omega
          clear hv hd hget hd' h1
          go_wp2_with fail
          go_ret
          exact ⟨by rw [HE.out]; rfl, HB.out⟩
        · have e1 : decide (((c.toNat : Nat) : Int) < 48) = false := by simp; omega
          have e2 : decide ((57 : Int) < ((c.toNat : Nat) : Int)) = true := by
            have : ¬ c.toNat ≤ 57 := fun h => hd (by unfold isDg; simp; omega)
            simp; omega
          clear hv hd hget hd' h1
          go_wp2_with fail
          go_ret
          exact ⟨by rw [HE.out]; rfl, HB.out⟩
    · have hke : k = s.size := by have := hk.out; omega
      have hlt' : ¬ (k : Int) < (s.size : Int) := by omega
      have HE : Hid (isDec s.data.toList = !s.toList.isEmpty) := by
        show _ = _
        rw [ByteArray.toList_eq]
        have ha : s.data.toList.all isDg = true := List.all_eq_true.2 fun c hc => by
          obtain ⟨j, hj⟩ := List.getElem?_of_mem hc
          have hl : j < s.data.toList.length := (List.getElem?_eq_some_iff.1 hj).1
          exact hv.out j c (by rw [hke, Lib.size_eq]; exact hl) hj
        unfold isDec
        rw [ha]
        rfl
      clear hke hv
      go_wp2_with fail
      go_ret
      exact ⟨by rw [HE.out]; rfl, HB.out⟩

theorem mulD_any (A B : Option Addr) (n m c d x y : Nat) (w : World) (h1 : D w (.slice A n c) x) (h2 : D w (.slice B m d) y) (hn : n ≤ 400000) (hm : m ≤ 400000) :
    Calls Tryz.prog 53 #[.slice A n c, .slice B m d] w (RetD (x * y) w) := by
  obtain ⟨f, f1, f2, f3, f4, f5⟩ := h1.open_
  obtain ⟨g, g1, g2, g3, g4, g5⟩ := h2.open_
  rw [← f4, ← g4]
  exact mul_any A B n m c d f g w (by omega) (by omega) f5 g5 f2 g2

theorem decV_snoc {l : List UInt8} {k : Nat} {c : UInt8} (h : l[k]? = some c) : decV 0 (l.take (k + 1)) = decV 0 (l.take k) * 10 + (c.toNat - 48) := by
  rw [List.take_add_one, h, decV_append]
  rfl

theorem ten_pow_lt (k : Nat) : 10 ^ k < W ^ (k + 1) := Nat.lt_of_le_of_lt (Nat.pow_le_pow_left (by rw [W_eq]; decide) k) (Nat.pow_lt_pow_right (by rw [W_eq]; decide) (by omega))

theorem decV_take_lt {l : List UInt8} (h : l.all isDg = true) (k : Nat) : decV 0 (l.take k) < W ^ (k + 1) := by
  have h1 : (l.take k).all isDg = true := List.all_eq_true.2 fun c hc => List.all_eq_true.1 h c (List.mem_of_mem_take hc)
  have h2 := decV_lt h1 0
  have h3 : 10 ^ (l.take k).length ≤ 10 ^ k := Nat.pow_le_pow_right (by decide) (by rw [List.length_take]; omega)
  have h4 := ten_pow_lt k
  omega

/-- What has been read after k digits. -/
def DecRel (w : World) (s : ByteArray) (o i : Value) (wr : World) : Prop :=
  ∃ k : Nat, Hid (k ≤ s.size) ∧ i = .int .i64 (k : Int) ∧ Hid (D wr o (decV 0 (s.data.toList.take k))) ∧ Hid (Below w.heap.size w wr)

set_option maxRecDepth 100000 in
set_option maxHeartbeats 8000000 in
theorem decimal_any (s : ByteArray) (w : World) (hs : s.size ≤ 1000) (hd : s.data.toList.all isDg = true) :
    Calls Tryz.prog 20 #[.string s] w (RetJ ((decV 0 s.data.toList : Nat) : Int) w) := by
  have HD := Lib.hid hd
  clear hd
  have HT : Hid (∀ wx, Calls Tryz.prog 52 #[.int .u64 10] wx (RetD 10 wx)) := fun wx => word_any 10 wx (by omega)
  go_enter Tryz.func20, Tryz.ntmps20
  go_upto_region 1 with fail
  generalize hX : w.alloc _ = X
  have hXX : Below w.heap.size w X ∧ Wr w.heap.size 45 X := by
    subst hX
    exact ⟨(Below.refl _ _).alloc (Nat.le_refl _) _, Wr.new _ _ _ 45 rfl⟩
  obtain ⟨hwX, hW⟩ := hXX
  clear hX
  have HWX := Lib.hid hW
  have HwX := Lib.hid hwX
  clear hW hwX
  go_wp2_with fail
  (with_reducible refine (HT.out X).mono ?_)
  rintro e w1 ⟨v10, rfl, hv10, hB1⟩
  obtain ⟨T, tn, tc, rfl⟩ := hv10.shape
  obtain ⟨g, cap, w2, hcv, hB2, hg, hcell⟩ := bytes_of s w1
  have HC := Lib.hid (And.intro hg hcell)
  have H10 := Lib.hid (hv10.keep hB2)
  have HX2 := Lib.hid (below_trans_same hB1 hB2)
  clear hcell hB1 hB2 hg hv10 HT
  go_wp2_with fail
  clear hcv
  generalize hl : s.data.toList = l at *
  have hz0 : D w2 (.slice none 0 0) 0 := ⟨none, 0, 0, fun _ => 0, rfl, Nat.le_refl _, fun i hi => absurd hi (by omega), Or.inl rfl, rfl, fun h => absurd h (by omega), fun h => absurd h (by omega)⟩
  have HZ0 := Lib.hid hz0
  clear hz0
  go_loopw [3, 11] (fun o i wr => ∃ k : Nat, Hid (k ≤ s.size) ∧ i = .int .i64 (k : Int) ∧ Hid (D wr o (decV 0 (l.take k))) ∧ Hid (Below w2.heap.size w2 wr)) (fun _ i _ => s.size - (intOf i).toNat)
  case atStart => exact ⟨0, Nat.zero_le _, rfl, HZ0, Lib.hid (Below.refl _ _)⟩
  case round =>
    clear HZ0
    obtain ⟨k, hk, rfl, hD, hB⟩ := hrel
    obtain ⟨A, n, c, rfl⟩ := hD.out.shape
    by_cases hlt : k < s.size
    · have hlt' : (k : Int) < (s.size : Int) := by omega
      have hcell := (hB.out.cell (p := ⟨g, k, none⟩) HC.out.1).trans (HC.out.2 k hlt)
      have hget := getD_list s hlt
      rw [hl] at hget
      generalize s.data[k] = b at hcell hget
      have hdg : isDg b = true := List.all_eq_true.1 HD.out b (List.mem_of_getElem? hget)
      obtain ⟨d1, d2⟩ := isDg_le hdg
      obtain ⟨d, hdd⟩ : ∃ d, b.toNat = 48 + d := ⟨b.toNat - 48, by omega⟩
      have hd9 : d ≤ 9 := by omega
      have hbc : ((b.toNat : Nat) : Int) = 48 + (d : Int) := by omega
      rw [hbc] at hcell
      have hV := decV_snoc hget
      rw [show b.toNat - 48 = d from by omega] at hV
      have hbound := decV_take_lt HD.out k
      have hlen : n ≤ k + 1 := hD.out.len hbound
      have htn : tn ≤ 1 := H10.out.len (by rw [W_eq]; decide)
      have HM := Lib.hid (mulD_any A T n tn c tc _ 10 wr hD.out (H10.out.keep hB.out) (by omega) (by omega))
      have HWd : Hid (∀ wx, Calls Tryz.prog 52 #[.int .u64 (48 + (d : Int) - 48)] wx (RetD d wx)) := fun wx => by
        rw [show 48 + (d : Int) - 48 = (d : Int) from by omega]
        exact word_any d wx (by omega)
      have hb2 : decV 0 (l.take k) * 10 < W ^ (k + 2) := by
        have := Nat.mul_lt_mul_of_pos_right hbound (show 0 < 10 by omega)
        have h2 : W ^ (k + 1) * 10 ≤ W ^ (k + 2) := by rw [show k + 2 = (k + 1) + 1 from rfl, Nat.pow_succ W (k + 1)]; exact Nat.mul_le_mul_left _ (by rw [W_eq]; decide)
        omega
      have HV := Lib.hid hV
      have HB2 := Lib.hid hb2
      clear hV hb2 hbound hget hdg d1 d2 hdd hbc
      go_wp2_with fail
      (with_reducible refine HM.out.mono ?_)
      rintro e w3 ⟨v3, rfl, hD3, hB3⟩
      obtain ⟨A3, n3, c3, rfl⟩ := hD3.shape
      have hn3 : n3 ≤ k + 2 := hD3.len HB2.out
      go_wp2_with fail
      (with_reducible refine (HWd.out _).mono ?_)
      rintro e w4 ⟨v4, rfl, hD4, hB4⟩
      obtain ⟨A4, n4, c4, rfl⟩ := hD4.shape
      have hn4 : n4 ≤ 1 := hD4.len (by rw [W_eq]; omega)
      have HA := Lib.hid (addD_any A3 A4 n3 n4 c3 c4 _ d w4 (hD3.keep hB4) hD4 (by omega) (by omega))
      have HBb := Lib.hid ((hB.out.trans (hB3.mono hB.out.size)).trans (hB4.mono (hB.out.trans (hB3.mono hB.out.size)).size))
      clear hD3 hD4 hB3 hB4 HM HWd hcell hn3 hn4
      go_wp2_with fail
      (with_reducible refine HA.out.mono ?_)
      rintro e w5 ⟨v5, rfl, hD5, hB5⟩
      have HD5 := Lib.hid hD5
      have HB5 := Lib.hid (HBb.out.trans (hB5.mono HBb.out.size))
      clear hD5 hB5 HA HBb
      go_wp2_with fail
      exact ⟨⟨k + 1, Lib.hid (by omega), by rw [show ((k + 1 : Nat) : Int) = (k : Int) + 1 from by omega], by rw [HV.out]; exact HD5, HB5⟩, by simp only [intOf]; omega⟩
    · have hke : k = s.size := by have := hk.out; omega
      have hlt' : ¬ (k : Int) < (s.size : Int) := by omega
      have HE : Hid (D wr (.slice A n c) (decV 0 l)) := by
        have := hD.out
        rw [hke, Lib.size_eq, hl, List.take_length] at this
        exact this
      obtain ⟨⟨p1, p2, p3, p4⟩, p5, p6, p7⟩ := HWX.out.keep (HX2.out.trans (hB.out.mono HX2.out.size))
      have HBB := Lib.hid (HwX.out.trans ((HX2.out.trans (hB.out.mono HX2.out.size)).mono HwX.out.size))
      clear hke hD
      go_wp2_with fail
      exact bodyPost_ret (v := .agg #[.bool false, .slice A n c]) (by simp [results, Tryz.results20, go_sem, *]) rfl
        (retJ_box (by simp) (by simpa using HE.out) p7 HBB.out (Nat.le_refl _))

end Go.Proofs.YtfhmhkbjcccejaaGreatDoor

namespace Go.Proofs.YtfhmhkbjcccejaaGreatDoor

/-- The base of the digits. -/
def Bs : Nat := 1073741824
theorem Bs_eq : Bs = 1073741824 := rfl
theorem Bs_pos : 0 < Bs := by decide
theorem Bs_pow_pos (n : Nat) : 0 < Bs ^ n := Nat.pow_pos Bs_pos

/-- The number that a list of digits stands for. -/
def val : List Nat → Nat
  | [] => 0
  | d :: l => d + Bs * val l
/-- All are digits. -/
def Dl (l : List Nat) : Prop := ∀ d ∈ l, d < Bs
/-- There is no digit 0 at the end. -/
def Nz (l : List Nat) : Prop := l = [] ∨ l.getD (l.length - 1) 0 ≠ 0

theorem val_nil : val [] = 0 := rfl
theorem val_append (l m : List Nat) : val (l ++ m) = val l + Bs ^ l.length * val m := by
  induction l with
  | nil => simp [val]
  | cons d l ih =>
    simp only [List.cons_append, val, ih, List.length_cons, Nat.pow_succ, Nat.mul_add]
    rw [← Nat.mul_assoc, Nat.mul_comm Bs (Bs ^ l.length), Nat.add_assoc]
theorem val_one (d : Nat) : val [d] = d := by simp [val]
theorem val_snoc (l : List Nat) (d : Nat) : val (l ++ [d]) = val l + Bs ^ l.length * d := by rw [val_append, val_one]
theorem val_lt {l : List Nat} (h : Dl l) : val l < Bs ^ l.length := by
  induction l with
  | nil => simp [val]
  | cons d l ih =>
    have h1 := ih (fun x hx => h x (List.mem_cons_of_mem _ hx))
    have h2 := h d List.mem_cons_self
    simp only [val, List.length_cons, Nat.pow_succ]
    have h3 : Bs * (val l + 1) ≤ Bs ^ l.length * Bs := by rw [Nat.mul_comm]; exact Nat.mul_le_mul_right _ h1
    rw [Nat.mul_add] at h3
    omega
theorem Dl.nil : Dl [] := fun _ h => by cases h
theorem Dl.snoc {l : List Nat} (h : Dl l) {d : Nat} (hd : d < Bs) : Dl (l ++ [d]) := fun x hx => by
  rcases List.mem_append.1 hx with hx | hx
  · exact h x hx
  · rw [List.mem_singleton.1 hx]; exact hd
theorem Dl.app {l m : List Nat} (h : Dl l) (h' : Dl m) : Dl (l ++ m) := fun x hx => by
  rcases List.mem_append.1 hx with hx | hx
  · exact h x hx
  · exact h' x hx
theorem Dl.take {l : List Nat} (h : Dl l) (k : Nat) : Dl (l.take k) := fun x hx => h x (List.mem_of_mem_take hx)
theorem Dl.drop {l : List Nat} (h : Dl l) (k : Nat) : Dl (l.drop k) := fun x hx => h x (List.mem_of_mem_drop hx)
theorem Dl.getD {l : List Nat} (h : Dl l) (k : Nat) : l.getD k 0 < Bs := by
  by_cases hk : k < l.length
  · simp only [List.getD_eq_getElem?_getD, List.getElem?_eq_getElem hk, Option.getD_some]
    exact h _ (List.getElem_mem hk)
  · simp only [List.getD_eq_getElem?_getD, List.getElem?_eq_none (by omega : l.length ≤ k), Option.getD_none]
    exact Bs_pos
theorem getD_out {l : List Nat} {k : Nat} (h : l.length ≤ k) : l.getD k 0 = 0 := by
  simp only [List.getD_eq_getElem?_getD, List.getElem?_eq_none h, Option.getD_none]
theorem getD_take {l : List Nat} {k i : Nat} (h : i < k) : (l.take k).getD i 0 = l.getD i 0 := by
  simp only [List.getD_eq_getElem?_getD, List.getElem?_take, h, if_true]
theorem getD_drop (l : List Nat) (k i : Nat) : (l.drop k).getD i 0 = l.getD (k + i) 0 := by
  simp only [List.getD_eq_getElem?_getD, List.getElem?_drop]
theorem getD_snoc_old {l : List Nat} {d k : Nat} (h : k < l.length) : (l ++ [d]).getD k 0 = l.getD k 0 := by
  simp only [List.getD_eq_getElem?_getD, List.getElem?_append_left h]
theorem getD_snoc_new (l : List Nat) (d : Nat) : (l ++ [d]).getD l.length 0 = d := by
  simp [List.getD_eq_getElem?_getD]

theorem take_snoc {l : List Nat} {k : Nat} (h : k < l.length) : l.take (k + 1) = l.take k ++ [l.getD k 0] := by
  rw [List.take_add_one, List.getElem?_eq_getElem h, List.getD_eq_getElem?_getD, List.getElem?_eq_getElem h]
  rfl
theorem val_take_succ (l : List Nat) (k : Nat) : val (l.take (k + 1)) = val (l.take k) + Bs ^ k * l.getD k 0 := by
  by_cases h : k < l.length
  · rw [take_snoc h, val_snoc, List.length_take, Nat.min_eq_left (by omega)]
  · rw [List.take_of_length_le (by omega), List.take_of_length_le (by omega), getD_out (by omega)]
    simp
theorem val_take_all {l : List Nat} {k : Nat} (h : l.length ≤ k) : val (l.take k) = val l := by rw [List.take_of_length_le h]
theorem val_split (l : List Nat) {k : Nat} (h : k ≤ l.length) : val l = val (l.take k) + Bs ^ k * val (l.drop k) := by
  conv => lhs; rw [← List.take_append_drop k l]
  rw [val_append, List.length_take, Nat.min_eq_left h]
theorem drop_cons {l : List Nat} {k : Nat} (h : k < l.length) : l.drop k = l.getD k 0 :: l.drop (k + 1) := by
  rw [List.drop_eq_getElem_cons h, List.getD_eq_getElem?_getD, List.getElem?_eq_getElem h]
  rfl
theorem val_drop {l : List Nat} {k : Nat} (h : k < l.length) : val (l.drop k) = l.getD k 0 + Bs * val (l.drop (k + 1)) := by
  rw [drop_cons h]
  rfl

theorem Nz_ge {l : List Nat} (h : Nz l) (hl : l ≠ []) : Bs ^ (l.length - 1) ≤ val l := by
  have h0 : 0 < l.length := List.length_pos_iff.2 hl
  have hd := h.resolve_left hl
  rw [val_split l (k := l.length - 1) (by omega), val_drop (by omega)]
  have : Bs ^ (l.length - 1) * 1 ≤ Bs ^ (l.length - 1) * (l.getD (l.length - 1) 0 + Bs * val (l.drop (l.length - 1 + 1))) := Nat.mul_le_mul_left _ (by omega)
  omega
theorem val_zero {l : List Nat} (h : Nz l) : val l = 0 ↔ l = [] := by
  refine ⟨fun h0 => ?_, fun h0 => by rw [h0]; rfl⟩
  rcases List.eq_nil_or_concat l with h1 | ⟨_, _, h1⟩
  · exact h1
  · have := Nz_ge h (by rw [h1]; simp)
    have h2 := Bs_pow_pos (l.length - 1)
    omega
theorem lt_of_len {a b : List Nat} (ha : Dl a) (hb : Nz b) (h : a.length < b.length) : val a < val b := by
  have h1 := val_lt ha
  have h2 := Nz_ge hb (by intro e; rw [e] at h; simp at h)
  have h3 : Bs ^ a.length ≤ Bs ^ (b.length - 1) := Nat.pow_le_pow_right Bs_pos (by omega)
  omega
theorem lt_of_top {a b : List Nat} (ha : Dl a) (hl : a.length = b.length) {i : Nat} (hi : i < a.length) (hd : a.drop (i + 1) = b.drop (i + 1)) (hlt : a.getD i 0 < b.getD i 0) : val a < val b := by
  have hi' : i < b.length := by omega
  rw [val_split a (k := i) (by omega), val_split b (k := i) (by omega), val_drop (l := a) (k := i) hi, val_drop (l := b) (k := i) hi', hd]
  have h1 := val_lt (ha.take i)
  rw [List.length_take, Nat.min_eq_left (by omega)] at h1
  have h2 : Bs ^ i * (a.getD i 0 + Bs * val (b.drop (i + 1)) + 1) ≤ Bs ^ i * (b.getD i 0 + Bs * val (b.drop (i + 1))) := Nat.mul_le_mul_left _ (by omega)
  rw [Nat.mul_add, Nat.mul_one] at h2
  omega
theorem drop_step {a b : List Nat} {i : Nat} (hi : i < a.length) (hl : a.length = b.length) (hd : a.drop (i + 1) = b.drop (i + 1)) (he : a.getD i 0 = b.getD i 0) : a.drop i = b.drop i := by
  have hi' : i < b.length := by omega
  rw [drop_cons (l := a) (k := i) hi, drop_cons (l := b) (k := i) hi', hd, he]

/-- -1, 0 or 1. -/
def cmpN (x y : Nat) : Int := if x < y then -1 else if y < x then 1 else 0
theorem cmpN_lt {x y : Nat} (h : x < y) : cmpN x y = -1 := if_pos h
theorem cmpN_gt {x y : Nat} (h : y < x) : cmpN x y = 1 := by unfold cmpN; rw [if_neg (by omega), if_pos h]
theorem cmpN_eq (x : Nat) : cmpN x x = 0 := by simp [cmpN]

theorem len_le {l : List Nat} (h : Nz l) {k : Nat} (hx : val l < Bs ^ k) : l.length ≤ k := by
  rcases List.eq_nil_or_concat l with h1 | ⟨_, _, h1⟩
  · rw [h1]; simp
  · have h2 := Nz_ge h (by rw [h1]; simp)
    have h3 : Bs ^ (l.length - 1) < Bs ^ k := Nat.lt_of_le_of_lt h2 hx
    have h4 := (Nat.pow_lt_pow_iff_right (by decide : 1 < Bs)).1 h3
    omega

end Go.Proofs.YtfhmhkbjcccejaaGreatDoor

namespace Go.Proofs.YtfhmhkbjcccejaaGreatDoor
open Go.RowKit

/-- The slice at A holds the digits l; its memory is of ints. -/
def Lc (w : World) (A : Option Addr) (l : List Nat) : Prop :=
  0 < l.length → ∃ b off, A = some ⟨b, off, none⟩ ∧ Bx w b 3 ∧ ∀ i, i < l.length → w.cell? ⟨b, off + i, none⟩ = some (.int .i64 ((l.getD i 0 : Nat) : Int))
theorem Bx.lt {w : World} {b T : Nat} (h : Bx w b T) : b < w.heap.size := by
  obtain ⟨cs, fr, hc⟩ := h
  exact lt_of_heap hc
theorem Lc.keep {w w' : World} {A : Option Addr} {l : List Nat} (h : Lc w A l) (hb : Below w.heap.size w w') : Lc w' A l := by
  intro hn
  obtain ⟨b, off, hA, hx, hc⟩ := h hn
  exact ⟨b, off, hA, hx.keep hb, fun i hi => (hb.cell (p := ⟨b, off + i, none⟩) hx.lt).trans (hc i hi)⟩
theorem Lc.drew {w : World} {A : Option Addr} {l : List Nat} (h : Lc w A l) : Lc w.drew A l := h
theorem Lc.nil (w : World) (A : Option Addr) : Lc w A [] := fun h => by simp at h
theorem Lc.take {w : World} {A : Option Addr} {l : List Nat} (h : Lc w A l) (k : Nat) : Lc w A (l.take k) := by
  intro hn
  rw [List.length_take] at hn
  obtain ⟨b, off, hA, hx, hc⟩ := h (by omega)
  refine ⟨b, off, hA, hx, fun i hi => ?_⟩
  rw [List.length_take] at hi
  rw [getD_take (by omega)]
  exact hc i (by omega)
/-- A store into memory of another type leaves the digits alone. -/
theorem Lc.set {w : World} {A : Option Addr} {l : List Nat} (h : Lc w A l) {k T : Nat} (hb : Bx w k T) (hT : T ≠ 3) (o : Nat) (u : Value) : Lc (w.setCell ⟨k, o, none⟩ u) A l := by
  intro hn
  obtain ⟨b, off, hA, hx, hc⟩ := h hn
  have hne : b ≠ k := by
    rintro rfl
    obtain ⟨cs, fr, h1⟩ := hx
    obtain ⟨cs', fr', h2⟩ := hb
    rw [h1] at h2
    injection h2 with h2
    injection h2 with _ h2
    exact hT h2.symm
  have e : (w.setCell ⟨k, o, none⟩ u).heap[b]? = w.heap[b]? := Below.heap_setCell _ _ _ _ hne
  exact ⟨b, off, hA, hx.set _ _ _, fun i hi => (World.cell?_of_block (w := w) (a := ⟨b, off + i, none⟩) e).trans (hc i hi)⟩

/-- The slice value v holds the digits l. -/
def Ls (w : World) (v : Value) (l : List Nat) : Prop := ∃ A c, v = .slice A l.length c ∧ (l.length ≤ c ∧ c ≤ 9223372036854775807) ∧ Dl l ∧ Lc w A l
theorem Ls.keep {w w' : World} {v : Value} {l : List Nat} (h : Ls w v l) (hb : Below w.heap.size w w') : Ls w' v l := by
  obtain ⟨A, c, h1, h2, h3, h4⟩ := h
  exact ⟨A, c, h1, h2, h3, h4.keep hb⟩
theorem Ls.set {w : World} {v : Value} {l : List Nat} (h : Ls w v l) {k T : Nat} (hb : Bx w k T) (hT : T ≠ 3) (o : Nat) (u : Value) : Ls (w.setCell ⟨k, o, none⟩ u) v l := by
  obtain ⟨A, c, h1, h2, h3, h4⟩ := h
  exact ⟨A, c, h1, h2, h3, h4.set hb hT o u⟩

/-- What a function returns that makes a list: one of which P holds. -/
def RetL (P : List Nat → Prop) (w : World) (e : Ending) (w' : World) : Prop := ∃ v l, e = .returned v ∧ Ls w' v l ∧ P l ∧ Below w.heap.size w w'

/-- A list that grows by append, in memory from block B on. -/
def Own (w : World) (B : Nat) (v : Value) (l : List Nat) : Prop := w.ownsRow B 3 1 v l.length (l.map fun (d : Nat) => .int .i64 (d : Int))
theorem Own.nil (w : World) (B : Nat) : Own w B (.slice none 0 0) [] := World.ownsRow_nil w B 3 1
theorem Own.alloc {w : World} {B : Nat} {v : Value} {l : List Nat} (h : Own w B v l) (o : Obj) : Own (w.alloc o) B v l := World.ownsRow.alloc h o
theorem Own.ls {w : World} {B : Nat} {v : Value} {l : List Nat} (h : Own w B v l) (hd : Dl l) : Ls w v l := by
  have h0 := h
  rcases h.2 with ⟨rfl, hn⟩ | ⟨g, cap, cur, rfl, _, hg, hcap, hcm, _⟩
  · have : l = [] := List.eq_nil_of_length_eq_zero hn
    subst this
    exact ⟨none, 0, rfl, ⟨Nat.le_refl _, Nat.zero_le _⟩, hd, Lc.nil w _⟩
  · refine ⟨some ⟨g, 0, none⟩, cap, rfl, ⟨hcap, by unfold maxLen at hcm; omega⟩, hd, fun hn => ⟨g, 0, rfl, ⟨cur, (0, 0), hg⟩, fun i hi => ?_⟩⟩
    have hc := World.ownsRow.cells h0 (g := g) rfl i (.int .i64 ((l.getD i 0 : Nat) : Int)) (by
      simp [List.getElem?_map, List.getD_eq_getElem?_getD, List.getElem?_eq_getElem hi])
    have hadd : (⟨g, 0, none⟩ : Addr).add i = ⟨g, 0 + i, none⟩ := by unfold Addr.add; split <;> simp_all
    rw [hadd] at hc
    exact hc

theorem cell_new (w : World) (u : Value) (T : Nat) : (w.alloc (.cells #[u] T)).cell? ⟨w.heap.size, 0, none⟩ = some u := by simp [go_sem]
theorem int_eq {k : IntKind} {a b : Int} (h : a = b) : Value.int k a = .int k b := by rw [h]

theorem info3 : (Tryz.prog.info? 3).map (fun i => (i.zero, i.size, i.bytes)) = some (some (.int .i64 0), 1, 8) := by kernel_rfl

set_option maxRecDepth 100000 in
/-- out = append(out, x). -/
theorem wpList_push {ops : Array Oper} {rest : List Oper} {o : Oper} {a : Act} {w : World} {Q : Exit → Act → World → Prop} (hgd : o.guard = none) (s x : Operand)
    (ho : o.op = .call { callee := .builtin .append, args := #[s, x], argTypes := #[52, 52] })
    (B : Nat) (v : Value) (l : List Nat) (hs : a.eval s = v) (hown : Own w B v l) (g : Nat) (hx : a.eval x = .slice (some ⟨g, 0, none⟩) 1 1) (X : Int) (hc : w.cell? ⟨g, 0, none⟩ = some (.int .i64 X)) (d : Nat) (hX : X = (d : Int))
    (hl : l.length ≤ 1000000) (hB : B ≤ w.heap.size)
    (h : ∀ v' w', Own w' B v' (l ++ [d]) → (∀ X0 : World, Below B X0 w → Below B X0 w') → wpList Tryz.prog ops Q rest (a.put o.dst v') w') : wpList Tryz.prog ops Q (o :: rest) a w := by
  obtain ⟨i0, hi, hz0, hz1, hz2⟩ := info_parts info3
  refine wpList_append_own w hgd s x 52 ho B 3 i0 (.int .i64 0) 1 8 Tryz.underlying52 hi hz0 hz1 hz2 rfl (by decide) v l.length _ hs hown ⟨g, 0, none⟩ 1 1 [.int .i64 (d : Int)] hx rfl ?_ ?_ ?_ ?_ hB ?_
  · intro j u hj
    match j, hj with
    | 0, hj =>
      simp at hj
      subst hj
      rw [← hX]
      simpa [Addr.add] using hc
  · intro u hu
    simp at hu
    subst hu
    rfl
  · unfold maxLen; omega
  · omega
  · intro v' w' h1 h2 _
    refine h v' w' ?_ (fun X0 hX0 => Below.grown hX0 h2 hB (fun k hk => (World.ownsRow.lt hown k hk).1))
    unfold Own
    rw [List.length_append, List.map_append]
    exact h1

end Go.Proofs.YtfhmhkbjcccejaaGreatDoor

namespace Go.Proofs.YtfhmhkbjcccejaaGreatDoor
open Go.RowKit

theorem Drn.lc {w w' : World} (h : Drn w w') {A : Option Addr} {l : List Nat} (hd : Lc w A l) : Lc w' A l := by obtain ⟨q, rfl⟩ := h; exact hd
theorem Drn.ls {w w' : World} (h : Drn w w') {v : Value} {l : List Nat} (hd : Ls w v l) : Ls w' v l := by obtain ⟨q, rfl⟩ := h; exact hd

theorem rtrim_any (A : Option Addr) (c : Nat) (l : List Nat) (w : World) (hn : l.length ≤ c) (hc : c ≤ 9223372036854775807) (hA : Lc w A l) :
    Calls Tryz.prog 110 #[.slice A l.length c] w fun e w' => ∃ k, e = .returned (.slice A k c) ∧ k ≤ l.length ∧ Nz (l.take k) ∧ val (l.take k) = val l ∧ w = w' := by
  obtain ⟨n, hln⟩ : ∃ n, l.length = n := ⟨_, rfl⟩
  have HL := Lib.hid hln
  rw [hln] at hn ⊢
  clear hln
  go_enter Tryz.func110, Tryz.ntmps110
  go_wp2
  go_loop [0] (fun s => ∃ k : Nat, k ≤ n ∧ s = .slice A k c ∧ Hid (val (l.take k) = val l)) (fun s => slen s)
  case atStart => exact ⟨n, Nat.le_refl _, rfl, by rw [← HL.out]; exact val_take_all (Nat.le_refl _)⟩
  case round =>
    obtain ⟨k, hk, rfl, hv⟩ := hrel
    rcases Nat.eq_zero_or_pos k with h0 | h0
    · subst h0
      go_wp2
      go_ret
      exact ⟨0, rfl, hk, Or.inl rfl, hv.out, rfl⟩
    · obtain ⟨b, off, hA', hb, hcell⟩ := hA (by rw [HL.out]; omega)
      subst hA'
      have hcell1 := hcell (k - 1) (by rw [HL.out]; omega)
      clear hcell
      obtain ⟨x, hx⟩ : ∃ x, l.getD (k - 1) 0 = x := ⟨_, rfl⟩
      rw [hx] at hcell1
      have HX := Lib.hid hx
      clear hx
      by_cases hz : x = 0
      · have hv2 : Hid (val (l.take (k - 1)) = val l) := by
          have := hv.out
          obtain ⟨m, rfl⟩ : ∃ m, k = m + 1 := ⟨k - 1, by omega⟩
          rw [val_take_succ] at this
          have h2 := HX.out
          simp only [Nat.add_sub_cancel] at h2 ⊢
          rw [h2, hz] at this
          show val (l.take m) = val l
          simpa using this
        subst hz
        go_wp2
        exact ⟨⟨k - 1, by omega, rfl, hv2⟩, by simp [slen]; omega⟩
      · have hz2 : ((x : Int) == 0) = false := by simpa using hz
        have HZ := Lib.hid hz
        clear hz
        go_wp2
        go_ret
        refine ⟨k, rfl, hk, Or.inr ?_, hv.out, rfl⟩
        rw [List.length_take, Nat.min_eq_left (by rw [HL.out]; exact hk), getD_take (by omega), HX.out]
        exact HZ.out

set_option maxRecDepth 100000 in
set_option maxHeartbeats 1000000 in
theorem rcmp_same (A B : Option Addr) (n ca cb : Nat) (la lb : List Nat) (w : World) (hn : n ≤ 1000000) (hla : la.length = n) (hlb : lb.length = n) (hA : Lc w A la) (hB : Lc w B lb) (ha : Dl la) (hb : Dl lb) :
    Calls Tryz.prog 86 #[.slice A n ca, .slice B n cb] w fun e w' => e = .returned (.int .i64 (cmpN (val la) (val lb))) ∧ Drn w w' := by
  have HLA := Lib.hid hla
  have HLB := Lib.hid hlb
  have HDA := Lib.hid ha
  have HDB := Lib.hid hb
  clear hla hlb ha hb
  go_enter Tryz.func86, Tryz.ntmps86
  go_wp2_with fail
  go_loopw [5] (fun i wr => ∃ k : Nat, k ≤ n ∧ i = .int .i64 ((k : Int) - 1) ∧ Hid (la.drop k = lb.drop k) ∧ Drn w wr) (fun i _ => (intOf i + 1).toNat)
  case atStart => exact ⟨n, Nat.le_refl _, rfl, by show la.drop n = lb.drop n; rw [List.drop_of_length_le (by rw [HLA.out]; omega), List.drop_of_length_le (by rw [HLB.out]; omega)], Drn.refl w⟩
  case round =>
    obtain ⟨k, hk, rfl, hs, hq⟩ := hrel
    rcases Nat.eq_zero_or_pos k with h0 | h0
    · subst h0
      have HE : Hid (cmpN (val la) (val lb) = 0) := by
        have : la = lb := hs.out
        rw [this]; exact cmpN_eq _
      rw [show (((0 : Nat) : Int) - 1) = -1 from rfl]
      go_wp2_with fail
      go_ret
      exact ⟨by rw [HE.out]; rfl, hq⟩
    · obtain ⟨b, off, rfl, hb, hcells⟩ := hA (by rw [HLA.out]; omega)
      obtain ⟨b', off', rfl, hb', hcells'⟩ := hB (by rw [HLB.out]; omega)
      obtain ⟨j, rfl⟩ : ∃ j, k = j + 1 := ⟨k - 1, by omega⟩
      have hc1 := (hq.cell ⟨b, off + j, none⟩).trans (hcells j (by rw [HLA.out]; omega))
      have hc2 := (hq.cell ⟨b', off' + j, none⟩).trans (hcells' j (by rw [HLB.out]; omega))
      have hjn : (j : Int) < (n : Int) := by omega
      clear hcells hcells'
      have ej : (((j + 1 : Nat) : Int) - 1) = (j : Int) := by omega
      rw [ej]
      clear ej h0
      obtain ⟨x, hx⟩ : ∃ x, la.getD j 0 = x := ⟨_, rfl⟩
      obtain ⟨y, hy⟩ : ∃ y, lb.getD j 0 = y := ⟨_, rfl⟩
      rw [hx] at hc1
      rw [hy] at hc2
      have HX := Lib.hid hx
      have HY := Lib.hid hy
      clear hx hy
      rcases Nat.lt_trichotomy x y with h | h | h
      · have HE : Hid (cmpN (val la) (val lb) = -1) := cmpN_lt (lt_of_top HDA.out (by rw [HLA.out, HLB.out]) (by rw [HLA.out]; omega) hs.out (by rw [HX.out, HY.out]; exact h))
        have hd : decide ((x : Int) < (y : Int)) = true := decide_eq_true (by omega)
        go_wp2_with fail
        go_quiet (fail)
        go_wp2_with fail
        go_ret
        exact ⟨by rw [HE.out]; rfl, hq.more _⟩
      · subst h
        have hs2 : Hid (la.drop j = lb.drop j) := drop_step (by rw [HLA.out]; omega) (by rw [HLA.out, HLB.out]) hs.out (by rw [HX.out, HY.out])
        go_wp2_with fail
        go_quiet (fail)
        go_wp2_with fail
        go_quiet (fail)
        go_wp2_with fail
        exact ⟨⟨j, by omega, rfl, hs2, (by first | exact hq.more _ | exact (hq.more _).more _)⟩, by simp [intOf]⟩
      · have HE : Hid (cmpN (val la) (val lb) = 1) := cmpN_gt (lt_of_top (a := lb) (b := la) HDB.out (by rw [HLA.out, HLB.out]) (by rw [HLB.out]; omega) hs.out.symm (by rw [HX.out, HY.out]; exact h))
        have hd : ¬ (x : Int) < (y : Int) := by omega
        go_wp2_with fail
        go_quiet (fail)
        go_wp2_with fail
        go_quiet (fail)
        go_wp2_with fail
        go_ret
        exact ⟨by rw [HE.out]; rfl, (by first | exact hq.more _ | exact (hq.more _).more _)⟩

set_option maxRecDepth 100000 in
theorem rcmp_any (A B : Option Addr) (n m ca cb : Nat) (la lb : List Nat) (w : World) (hn : n ≤ 1000000) (hla : la.length = n) (hlb : lb.length = m) (hA : Lc w A la) (hB : Lc w B lb) (ha : Dl la) (hb : Dl lb) (hna : Nz la) (hnb : Nz lb) :
    Calls Tryz.prog 86 #[.slice A n ca, .slice B m cb] w fun e w' => e = .returned (.int .i64 (cmpN (val la) (val lb))) ∧ Drn w w' := by
  rcases Nat.lt_trichotomy n m with h | h | h
  · have HE : Hid (cmpN (val la) (val lb) = -1) := cmpN_lt (lt_of_len ha hnb (by omega))
    have h2 : ((n : Int) != (m : Int)) = true := by rw [bne_iff_ne]; omega
    rw [HE.out]
    clear HE ha hb hna hnb hA hB hla hlb
    go_enter Tryz.func86, Tryz.ntmps86
    go_wp2_with fail
    go_ret
    exact ⟨rfl, Drn.refl w⟩
  · subst h
    exact rcmp_same A B n ca cb la lb w hn hla hlb hA hB ha hb
  · have HE : Hid (cmpN (val la) (val lb) = 1) := cmpN_gt (lt_of_len hb hna (by omega))
    have h2 : ((n : Int) != (m : Int)) = true := by rw [bne_iff_ne]; omega
    rw [HE.out]
    clear HE ha hb hna hnb hA hB hla hlb
    go_enter Tryz.func86, Tryz.ntmps86
    go_wp2_with fail
    go_ret
    exact ⟨rfl, Drn.refl w⟩

end Go.Proofs.YtfhmhkbjcccejaaGreatDoor
