/- Plain facts on numbers that are written as lists of digits to the base 2^30, the least significant one first. -/
import Derived.Test.YtmfnpipmbpnfbaaGreatDoorProg
import Derived.WalkKit
import Derived.WalkSpells
import Derived.Below
import Derived.Lib.Hide
import Derived.KernelRfl
import Derived.Deep.QuietTactic
import Derived.BigQuiet
import Derived.Outline
import Derived.Deep.DeepFit
import Derived.Deep.OwnRows

set_option maxRecDepth 100000
set_option maxHeartbeats 40000000
namespace Go.Proofs.YtmfnpipmbpnfbaaGreatDoor
def Bs : Nat := 1073741824
theorem Bs_eq : Bs = 1073741824 := rfl
theorem Bs_pos : 0 < Bs := by decide
theorem Bs_pow_pos (n : Nat) : 0 < Bs ^ n := Nat.pow_pos Bs_pos
def val : List Nat → Nat
  | [] => 0
  | d :: l => d + Bs * val l
def Dl (l : List Nat) : Prop := ∀ d ∈ l, d < Bs
def Nz (l : List Nat) : Prop := l = [] ∨ l.getD (l.length - 1) 0 ≠ 0
theorem val_nil : val [] = 0 := rfl
theorem val_append (l m : List Nat) : val (l ++ m) = val l + Bs ^ l.length * val m := by
  induction l with
  | nil => simp [val]
  | cons d l ih =>
    simp only [List.cons_append, val, ih, List.length_cons, Nat.pow_succ, Nat.mul_add]
    rw [← Nat.mul_assoc, Nat.mul_comm Bs (Bs ^ l.length), Nat.add_assoc]
theorem val_one (d : Nat) : val [d] = d := by simp [val]
theorem val_snoc (l : List Nat) (d : Nat) : val (l ++ [d]) = val l + Bs ^ l.length * d := by rw [val_append, val_one]
theorem val_lt {l : List Nat} (h : Dl l) : val l < Bs ^ l.length := by
  induction l with
  | nil => simp [val]
  | cons d l ih =>
    have h1 := ih (fun x hx => h x (List.mem_cons_of_mem _ hx))
    have h2 := h d List.mem_cons_self
    simp only [val, List.length_cons, Nat.pow_succ]
    have h3 : Bs * (val l + 1) ≤ Bs ^ l.length * Bs := by rw [Nat.mul_comm]; exact Nat.mul_le_mul_right _ h1
    rw [Nat.mul_add] at h3
    omega
theorem Dl.nil : Dl [] := fun _ h => by cases h
theorem Dl.snoc {l : List Nat} (h : Dl l) {d : Nat} (hd : d < Bs) : Dl (l ++ [d]) := fun x hx => by
  rcases List.mem_append.1 hx with hx | hx
  · exact h x hx
  · rw [List.mem_singleton.1 hx]; exact hd
theorem Dl.app {l m : List Nat} (h : Dl l) (h' : Dl m) : Dl (l ++ m) := fun x hx => by
  rcases List.mem_append.1 hx with hx | hx
  · exact h x hx
  · exact h' x hx
theorem Dl.take {l : List Nat} (h : Dl l) (k : Nat) : Dl (l.take k) := fun x hx => h x (List.mem_of_mem_take hx)
theorem Dl.drop {l : List Nat} (h : Dl l) (k : Nat) : Dl (l.drop k) := fun x hx => h x (List.mem_of_mem_drop hx)
theorem Dl.getD {l : List Nat} (h : Dl l) (k : Nat) : l.getD k 0 < Bs := by
  by_cases hk : k < l.length
  · simp only [List.getD_eq_getElem?_getD, List.getElem?_eq_getElem hk, Option.getD_some]
    exact h _ (List.getElem_mem hk)
  · simp only [List.getD_eq_getElem?_getD, List.getElem?_eq_none (by omega : l.length ≤ k), Option.getD_none]
    exact Bs_pos
theorem getD_out {l : List Nat} {k : Nat} (h : l.length ≤ k) : l.getD k 0 = 0 := by
  simp only [List.getD_eq_getElem?_getD, List.getElem?_eq_none h, Option.getD_none]
theorem getD_take {l : List Nat} {k i : Nat} (h : i < k) : (l.take k).getD i 0 = l.getD i 0 := by
  simp only [List.getD_eq_getElem?_getD, List.getElem?_take, h, if_true]
theorem getD_drop (l : List Nat) (k i : Nat) : (l.drop k).getD i 0 = l.getD (k + i) 0 := by
  simp only [List.getD_eq_getElem?_getD, List.getElem?_drop]
theorem getD_snoc_new (l : List Nat) (d : Nat) : (l ++ [d]).getD l.length 0 = d := by
  simp [List.getD_eq_getElem?_getD]
theorem take_snoc {l : List Nat} {k : Nat} (h : k < l.length) : l.take (k + 1) = l.take k ++ [l.getD k 0] := by
  rw [List.take_add_one, List.getElem?_eq_getElem h, List.getD_eq_getElem?_getD, List.getElem?_eq_getElem h]
  rfl
theorem val_take_succ (l : List Nat) (k : Nat) : val (l.take (k + 1)) = val (l.take k) + Bs ^ k * l.getD k 0 := by
  by_cases h : k < l.length
  · rw [take_snoc h, val_snoc, List.length_take, Nat.min_eq_left (by omega)]
  · rw [List.take_of_length_le (by omega), List.take_of_length_le (by omega), getD_out (by omega)]
    simp
theorem val_take_all {l : List Nat} {k : Nat} (h : l.length ≤ k) : val (l.take k) = val l := by rw [List.take_of_length_le h]
theorem val_split (l : List Nat) {k : Nat} (h : k ≤ l.length) : val l = val (l.take k) + Bs ^ k * val (l.drop k) := by
  conv => lhs; rw [← List.take_append_drop k l]
  rw [val_append, List.length_take, Nat.min_eq_left h]
theorem drop_cons {l : List Nat} {k : Nat} (h : k < l.length) : l.drop k = l.getD k 0 :: l.drop (k + 1) := by
  rw [List.drop_eq_getElem_cons h, List.getD_eq_getElem?_getD, List.getElem?_eq_getElem h]
  rfl
theorem val_drop {l : List Nat} {k : Nat} (h : k < l.length) : val (l.drop k) = l.getD k 0 + Bs * val (l.drop (k + 1)) := by
  rw [drop_cons h]
  rfl
theorem Nz_ge {l : List Nat} (h : Nz l) (hl : l ≠ []) : Bs ^ (l.length - 1) ≤ val l := by
  have h0 : 0 < l.length := List.length_pos_iff.2 hl
  have hd := h.resolve_left hl
  rw [val_split l (k := l.length - 1) (by omega), val_drop (by omega)]
  have : Bs ^ (l.length - 1) * 1 ≤ Bs ^ (l.length - 1) * (l.getD (l.length - 1) 0 + Bs * val (l.drop (l.length - 1 + 1))) := Nat.mul_le_mul_left _ (by omega)
  omega
theorem lt_of_len {a b : List Nat} (ha : Dl a) (hb : Nz b) (h : a.length < b.length) : val a < val b := by
  have h1 := val_lt ha
  have h2 := Nz_ge hb (by intro e; rw [e] at h; simp at h)
  have h3 : Bs ^ a.length ≤ Bs ^ (b.length - 1) := Nat.pow_le_pow_right Bs_pos (by omega)
  omega
theorem lt_of_top {a b : List Nat} (ha : Dl a) (hl : a.length = b.length) {i : Nat} (hi : i < a.length) (hd : a.drop (i + 1) = b.drop (i + 1)) (hlt : a.getD i 0 < b.getD i 0) : val a < val b := by
  have hi' : i < b.length := by omega
  rw [val_split a (k := i) (by omega), val_split b (k := i) (by omega), val_drop (l := a) (k := i) hi, val_drop (l := b) (k := i) hi', hd]
  have h1 := val_lt (ha.take i)
  rw [List.length_take, Nat.min_eq_left (by omega)] at h1
  have h2 : Bs ^ i * (a.getD i 0 + Bs * val (b.drop (i + 1)) + 1) ≤ Bs ^ i * (b.getD i 0 + Bs * val (b.drop (i + 1))) := Nat.mul_le_mul_left _ (by omega)
  rw [Nat.mul_add, Nat.mul_one] at h2
  omega
theorem drop_step {a b : List Nat} {i : Nat} (hi : i < a.length) (hl : a.length = b.length) (hd : a.drop (i + 1) = b.drop (i + 1)) (he : a.getD i 0 = b.getD i 0) : a.drop i = b.drop i := by
  have hi' : i < b.length := by omega
  rw [drop_cons (l := a) (k := i) hi, drop_cons (l := b) (k := i) hi', hd, he]
def cmpN (x y : Nat) : Int := if x < y then -1 else if y < x then 1 else 0
theorem cmpN_lt {x y : Nat} (h : x < y) : cmpN x y = -1 := if_pos h
theorem cmpN_gt {x y : Nat} (h : y < x) : cmpN x y = 1 := by unfold cmpN; rw [if_neg (by omega), if_pos h]
theorem cmpN_eq (x : Nat) : cmpN x x = 0 := by simp [cmpN]
theorem len_le {l : List Nat} (h : Nz l) {k : Nat} (hx : val l < Bs ^ k) : l.length ≤ k := by
  rcases List.eq_nil_or_concat l with h1 | ⟨_, _, h1⟩
  · rw [h1]; simp
  · have h2 := Nz_ge h (by rw [h1]; simp)
    have h3 : Bs ^ (l.length - 1) < Bs ^ k := Nat.lt_of_le_of_lt h2 hx
    have h4 := (Nat.pow_lt_pow_iff_right (by decide : 1 < Bs)).1 h3
    omega
def W : Nat := 4294967296
theorem W_pos : 0 < W := by unfold W; omega
theorem W_eq : W = 4294967296 := rfl
def V (f : Nat → Nat) : Nat → Nat
  | 0 => 0
  | n + 1 => V f n + f n * W ^ n
theorem V_zero (f : Nat → Nat) : V f 0 = 0 := rfl
theorem V_succ (f : Nat → Nat) (n : Nat) : V f (n + 1) = V f n + f n * W ^ n := rfl
theorem pow_pos' (n : Nat) : 0 < W ^ n := Nat.pow_pos W_pos
theorem pow_succ' (n : Nat) : W ^ (n + 1) = W ^ n * W := Nat.pow_succ W n
theorem V_congr {f g : Nat → Nat} {n : Nat} (h : ∀ i, i < n → f i = g i) : V f n = V g n := by
  induction n with
  | zero => rfl
  | succ n ih => rw [V_succ, V_succ, ih (fun i hi => h i (by omega)), h n (by omega)]
theorem V_lt {f : Nat → Nat} {n : Nat} (h : ∀ i, i < n → f i < W) : V f n < W ^ n := by
  induction n with
  | zero => simp [V_zero]
  | succ n ih =>
    have h1 := ih (fun i hi => h i (by omega))
    have h2 := h n (by omega)
    rw [V_succ, pow_succ']
    have h3 : (f n + 1) * W ^ n ≤ W * W ^ n := Nat.mul_le_mul_right _ (by omega)
    rw [Nat.add_mul, Nat.one_mul] at h3
    rw [Nat.mul_comm (W ^ n) W]
    omega
theorem V_tail {f : Nat → Nat} {k n : Nat} (hk : k ≤ n) (h : ∀ i, k ≤ i → i < n → f i = 0) : V f n = V f k := by
  induction n with
  | zero => have : k = 0 := by omega
            rw [this]
  | succ n ih =>
    by_cases hkn : k = n + 1
    · rw [hkn]
    · rw [V_succ, h n (by omega) (by omega), ih (by omega) (fun i h1 h2 => h i h1 (by omega))]; simp
theorem V_split (f : Nat → Nat) (k m : Nat) : V f (k + m) = V f k + W ^ k * V (fun i => f (k + i)) m := by
  induction m with
  | zero => simp [V_zero]
  | succ m ih =>
    rw [← Nat.add_assoc, V_succ, V_succ, ih, Nat.mul_add, Nat.pow_add]
    rw [Nat.mul_comm (W ^ k) (f (k + m) * W ^ m), Nat.mul_assoc (f (k + m)), Nat.mul_comm (W ^ m) (W ^ k)]
    omega
theorem V_head (f : Nat → Nat) (m : Nat) : V f (m + 1) = f 0 + W * V (fun i => f (i + 1)) m := by
  have h := V_split f 1 m
  rw [Nat.add_comm 1 m] at h
  rw [h, V_succ, V_zero]
  have : (fun i => f (1 + i)) = (fun i => f (i + 1)) := by funext i; rw [Nat.add_comm]
  rw [this]; simp
theorem V_low {f : Nat → Nat} {n : Nat} (hn : 0 < n) (h : f (n - 1) ≠ 0) : W ^ (n - 1) ≤ V f n := by
  obtain ⟨m, rfl⟩ : ∃ m, n = m + 1 := ⟨n - 1, by omega⟩
  rw [V_succ]
  simp only [Nat.add_sub_cancel] at h ⊢
  have : 1 * W ^ m ≤ f m * W ^ m := Nat.mul_le_mul_right _ (by omega)
  omega
def Nrm (f : Nat → Nat) (n : Nat) : Prop := n = 0 ∨ f (n - 1) ≠ 0
theorem V_pos {f : Nat → Nat} {n : Nat} (hn : 0 < n) (h : Nrm f n) : W ^ (n - 1) ≤ V f n := by
  rcases h with h | h
  · omega
  · exact V_low hn h
theorem pow_le {a b : Nat} (h : a ≤ b) : W ^ a ≤ W ^ b := Nat.pow_le_pow_right W_pos h
theorem len_of_lt {f : Nat → Nat} {n k : Nat} (h : Nrm f n) (hv : V f n < W ^ k) : n ≤ k := by
  rcases Nat.eq_zero_or_pos n with h0 | h0
  · omega
  · have h1 := V_pos h0 h
    rcases Nat.lt_or_ge k n with hk | hk
    · have := pow_le (show k ≤ n - 1 by omega); omega
    · exact hk
theorem V_zero_iff {f : Nat → Nat} {n : Nat} (h : Nrm f n) : V f n = 0 ↔ n = 0 := by
  constructor
  · intro hv
    rcases Nat.eq_zero_or_pos n with h0 | h0
    · exact h0
    · have h1 := V_pos h0 h
      have := pow_pos' (n - 1)
      omega
  · rintro rfl; rfl
theorem V_lt_of_len {f g : Nat → Nat} {n m : Nat} (hf : ∀ i, i < n → f i < W) (hg : Nrm g m) (h : n < m) : V f n < V g m := by
  have h1 := V_lt hf
  have h2 := V_pos (by omega) hg
  have := pow_le (show n ≤ m - 1 by omega)
  omega
theorem V_lt_of_digit {f g : Nat → Nat} {n i : Nat} (hi : i < n) (hf : ∀ j, j < n → f j < W) (h : ∀ j, i < j → j < n → f j = g j) (hlt : f i < g i) : V f n < V g n := by
  obtain ⟨m, rfl⟩ : ∃ m, n = (i + 1) + m := ⟨n - (i + 1), by omega⟩
  rw [V_split f (i + 1) m, V_split g (i + 1) m]
  have e : V (fun j => f (i + 1 + j)) m = V (fun j => g (i + 1 + j)) m := V_congr fun j hj => h _ (by omega) (by omega)
  rw [e, V_succ, V_succ]
  have h1 : V f i < W ^ i := V_lt fun j hj => hf j (by omega)
  have h2 : (f i + 1) * W ^ i ≤ g i * W ^ i := Nat.mul_le_mul_right _ (by omega)
  rw [Nat.add_mul, Nat.one_mul] at h2
  omega
def up (f : Nat → Nat) (i x : Nat) : Nat → Nat := fun j => if j = i then x else f j
theorem up_at (f : Nat → Nat) (i x : Nat) : up f i x i = x := by simp [up]
theorem up_far (f : Nat → Nat) {i j : Nat} (x : Nat) (h : j ≠ i) : up f i x j = f j := by simp [up, h]
theorem V_up_below (f : Nat → Nat) {i n : Nat} (x : Nat) (h : n ≤ i) : V (up f i x) n = V f n :=
  V_congr fun j hj => up_far f x (by omega)
theorem add_step {F X Y i c s : Nat} (x y : Nat) (h : F + c * W ^ i = X + Y) (hs : s = x + y + c) :
    (F + (s % W) * W ^ i) + (s / W) * W ^ (i + 1) = (X + x * W ^ i) + (Y + y * W ^ i) := by
  have e : s % W + W * (s / W) = s := Nat.mod_add_div s W
  have : (s % W) * W ^ i + (s / W) * W ^ (i + 1) = s * W ^ i := by
    rw [pow_succ', Nat.mul_comm (W ^ i) W, ← Nat.mul_assoc, ← Nat.add_mul, Nat.mul_comm (s / W) W, e]
  have e2 : s * W ^ i = x * W ^ i + y * W ^ i + c * W ^ i := by rw [hs, Nat.add_mul, Nat.add_mul]
  omega
theorem sub_step {F X Y i b r e : Nat} (x y : Nat) (h : F + Y = X + b * W ^ i) (hr : r + y + b = x + e * W) :
    (F + r * W ^ i) + (Y + y * W ^ i) = (X + x * W ^ i) + e * W ^ (i + 1) := by
  have h2 : (r + y + b) * W ^ i = (x + e * W) * W ^ i := by rw [hr]
  rw [Nat.add_mul, Nat.add_mul, Nat.add_mul, Nat.mul_assoc e W, Nat.mul_comm W (W ^ i), ← pow_succ'] at h2
  omega
theorem mac_step {F X Y i c s q : Nat} (a y : Nat) (h : F + c * W ^ i = X + q * Y) (hs : s = q * y + a + c) :
    (F + (s % W) * W ^ i) + (s / W) * W ^ (i + 1) = (X + a * W ^ i) + q * (Y + y * W ^ i) := by
  have e : s % W + W * (s / W) = s := Nat.mod_add_div s W
  have h1 : (s % W) * W ^ i + (s / W) * W ^ (i + 1) = s * W ^ i := by
    rw [pow_succ', Nat.mul_comm (W ^ i) W, ← Nat.mul_assoc, ← Nat.add_mul, Nat.mul_comm (s / W) W, e]
  have e2 : s * W ^ i = q * (y * W ^ i) + a * W ^ i + c * W ^ i := by rw [hs, Nat.add_mul, Nat.add_mul, Nat.mul_assoc]
  rw [Nat.mul_add]
  omega
theorem guess_high {U D T B2 P g : Nat} (hT : T = U / P) (hP : 0 < P) (hB : B2 = D / P) (h : g * B2 ≤ T) (hg : g < W) (hD : W * P ≤ D) : g * D < U + D := by
  have h1 : T * P ≤ U := by rw [hT]; exact Nat.div_mul_le_self U P
  have h2 : g * B2 * P ≤ T * P := Nat.mul_le_mul_right _ h
  have h3 : D < (B2 + 1) * P := by rw [hB, Nat.mul_comm, Nat.mul_add, Nat.mul_one]; exact Nat.lt_mul_div_succ D hP
  rcases Nat.eq_zero_or_pos g with h0 | h0
  · subst h0; have := Nat.mul_pos W_pos hP; omega
  · have h4 : g * D ≤ g * ((B2 + 1) * P) := Nat.mul_le_mul_left _ (Nat.le_of_lt h3)
    have e : g * ((B2 + 1) * P) = g * B2 * P + g * P := by rw [Nat.add_mul, Nat.one_mul, Nat.mul_add, Nat.mul_assoc]
    have h5 : g * P < W * P := Nat.mul_lt_mul_of_pos_right hg hP
    omega
theorem quotient_of {U D g : Nat} (h1 : U < (g + 1) * D) (h2 : g * D ≤ U) : U / D = g ∧ U % D = U - g * D := by
  have hD : 0 < D := by
    rcases Nat.eq_zero_or_pos D with h | h
    · subst h; simp at h1
    · exact h
  have e : U / D = g := by
    refine Nat.div_eq_of_lt_le ?_ ?_
    · exact h2
    · exact h1
  refine ⟨e, ?_⟩
  have := Nat.mod_add_div U D
  rw [e, Nat.mul_comm] at this
  omega
theorem msub_step {F X Y i c b s r e : Nat} (a y q : Nat) (h : F + q * Y = X + (c + b) * W ^ i) (hs : s = q * y + c) (hr : r + s % W + b = a + e * W) :
    (F + r * W ^ i) + q * (Y + y * W ^ i) = (X + a * W ^ i) + (s / W + e) * W ^ (i + 1) := by
  have e1 : s % W + W * (s / W) = s := Nat.mod_add_div s W
  have h1 : r + q * y + (c + b) = a + (s / W + e) * W := by
    rw [Nat.add_mul, Nat.mul_comm (s / W) W]; omega
  have h2 : (r + q * y + (c + b)) * W ^ i = (a + (s / W + e) * W) * W ^ i := by rw [h1]
  rw [Nat.add_mul, Nat.add_mul, Nat.add_mul a, Nat.mul_assoc (s / W + e), Nat.mul_comm W (W ^ i), ← pow_succ'] at h2
  rw [Nat.mul_add, ← Nat.mul_assoc]
  omega
theorem V_digits (Y n : Nat) : V (fun i => Y / W ^ i % W) n = Y % W ^ n := by
  induction n with
  | zero => simp [V_zero, Nat.mod_one]
  | succ n ih => rw [V_succ, ih, pow_succ', Nat.mod_mul, Nat.mul_comm (W ^ n)]
theorem V_digit {f : Nat → Nat} {n i : Nat} (hf : ∀ j, j < n → f j < W) (hi : i < n) : V f n / W ^ i % W = f i := by
  obtain ⟨m, rfl⟩ : ∃ m, n = i + (m + 1) := ⟨n - i - 1, by omega⟩
  rw [V_split, V_head]
  have h1 : V f i < W ^ i := V_lt fun j hj => hf j (by omega)
  rw [Nat.add_mul_div_left _ _ (pow_pos' i), Nat.div_eq_of_lt h1, Nat.zero_add, Nat.add_mul_mod_self_left]
  simpa using Nat.mod_eq_of_lt (hf i (by omega))
theorem V_drop {f : Nat → Nat} {n i : Nat} (hf : ∀ j, j < n → f j < W) (hi : i ≤ n) : V (fun j => f (i + j)) (n - i) = V f n / W ^ i := by
  obtain ⟨m, rfl⟩ : ∃ m, n = i + m := ⟨n - i, by omega⟩
  rw [V_split]
  have h1 : V f i < W ^ i := V_lt fun j hj => hf j (by omega)
  rw [Nat.add_mul_div_left _ _ (pow_pos' i), Nat.div_eq_of_lt h1, Nat.zero_add, Nat.add_sub_cancel_left]
theorem W_two (n : Nat) (h : n ≤ 32) : W = 2 ^ n * 2 ^ (32 - n) := by
  rw [← Nat.pow_add, show n + (32 - n) = 32 from by omega]; rfl
theorem shl_step {F X i c d n : Nat} (h : F + c * W ^ i = X * 2 ^ n) :
    (F + ((d * 2 ^ n) % W + c) * W ^ i) + (d * 2 ^ n / W) * W ^ (i + 1) = (X + d * W ^ i) * 2 ^ n := by
  have e : (d * 2 ^ n) % W + W * (d * 2 ^ n / W) = d * 2 ^ n := Nat.mod_add_div _ W
  have h1 : (d * 2 ^ n) % W * W ^ i + (d * 2 ^ n / W) * W ^ (i + 1) = d * 2 ^ n * W ^ i := by
    rw [pow_succ', Nat.mul_comm (W ^ i) W, ← Nat.mul_assoc, ← Nat.add_mul, Nat.mul_comm (d * 2 ^ n / W) W, e]
  rw [Nat.add_mul X, Nat.mul_assoc d, Nat.mul_comm (W ^ i) (2 ^ n), ← Nat.mul_assoc, Nat.add_mul]
  omega
theorem shr_digit (X n i : Nat) (hn : n < 32) : (X / W ^ i % W + W * (X / W ^ (i + 1) % W)) / 2 ^ n % W = X / 2 ^ n / W ^ i % W := by
  have e1 : X / W ^ i % W + W * (X / W ^ (i + 1) % W) = X / W ^ i % (W * W) := by
    rw [Nat.mod_mul, Nat.div_div_eq_div_mul, pow_succ']
  have e2 : X / 2 ^ n / W ^ i = X / W ^ i / 2 ^ n := by rw [Nat.div_div_eq_div_mul, Nat.div_div_eq_div_mul, Nat.mul_comm]
  rw [e1, e2]
  generalize X / W ^ i = Y
  have hw := W_two n (by omega)
  have e3 : W * W = 2 ^ n * (2 ^ (32 - n) * W) := by rw [← Nat.mul_assoc, ← hw]
  rw [e3, Nat.mod_mul_right_div_self, Nat.mod_mod_of_dvd _ ⟨2 ^ (32 - n), Nat.mul_comm _ _⟩]
end Go.Proofs.YtmfnpipmbpnfbaaGreatDoor
namespace Go.Proofs.YtmfnpipmbpnfbaaGreatDoor
open Go.RowKit
def Dg (w : World) (A : Option Addr) (n : Nat) (f : Nat → Nat) : Prop :=
  0 < n → ∃ b off, A = some ⟨b, off, none⟩ ∧ b < w.heap.size ∧ ∀ i, i < n → w.cell? ⟨b, off + i, none⟩ = some (.int .u32 ((f i : Nat) : Int))
def ext (f : Nat → Nat) (n : Nat) : Nat → Nat := fun k => if k < n then f k else 0
def TT (w : World) (A : Option Addr) (n : Nat) : Prop := 0 < n → ∃ b off, A = some ⟨b, off, none⟩ ∧ ∃ cs fr, w.heap[b]? = some (.cells cs 193 fr)
theorem lt_of_heap {w : World} {b : Nat} {o : Obj} (h : w.heap[b]? = some o) : b < w.heap.size := by
  obtain ⟨hlt, _⟩ := Array.getElem?_eq_some_iff.1 h
  exact hlt
theorem TT.keep {w w' : World} {A : Option Addr} {n : Nat} (h : TT w A n) (hb : Below w.heap.size w w') : TT w' A n := by
  intro hn
  obtain ⟨b, off, hA, cs, fr, hc⟩ := h hn
  exact ⟨b, off, hA, cs, fr, (hb.block b (lt_of_heap hc)).trans hc⟩
theorem TT.sub {w : World} {A : Option Addr} {n k : Nat} (h : TT w A n) (hk : k ≤ n) : TT w A k := fun h0 => h (by omega)
def D (w : World) (v : Value) (x : Nat) : Prop :=
  ∃ A n c f, v = .slice A n c ∧ n ≤ c ∧ (∀ i, i < n → f i < W) ∧ Nrm f n ∧ V f n = x ∧ Dg w A n f ∧ TT w A n
theorem Dg.keep {w w' : World} {A : Option Addr} {n : Nat} {f : Nat → Nat} (h : Dg w A n f) (hb : Below w.heap.size w w') : Dg w' A n f := by
  intro hn
  obtain ⟨b, off, hA, hlt, hc⟩ := h hn
  exact ⟨b, off, hA, Nat.lt_of_lt_of_le hlt hb.size, fun i hi => (hb.cell (p := ⟨b, off + i, none⟩) hlt).trans (hc i hi)⟩
theorem Dg.sub {w : World} {A : Option Addr} {n k : Nat} {f : Nat → Nat} (h : Dg w A n f) (hk : k ≤ n) : Dg w A k f := by
  intro h0
  obtain ⟨b, off, hA, hlt, hc⟩ := h (by omega)
  exact ⟨b, off, hA, hlt, fun i hi => hc i (by omega)⟩
theorem D.keep {w w' : World} {v : Value} {x : Nat} (h : D w v x) (hb : Below w.heap.size w w') : D w' v x := by
  obtain ⟨A, n, c, f, h1, h2, h3, h4, h5, h6, h7⟩ := h
  exact ⟨A, n, c, f, h1, h2, h3, h4, h5, h6.keep hb, h7.keep hb⟩
theorem at_in (A : Option Addr) (n c : Nat) (f : Nat → Nat) (i : Int) (w : World) (h0 : 0 ≤ i) (hi : i < n) (hn : n ≤ 1000000) (h : Dg w A n f) :
    Calls Tryz.prog 270 #[.slice A n c, .int .i64 i] w fun e w' => e = .returned (.int .u32 ((ext f n i.toNat : Nat) : Int)) ∧ w = w' := by
  obtain ⟨k, rfl⟩ := Int.eq_ofNat_of_zero_le h0
  have hk : k < n := by omega
  obtain ⟨b, off, rfl, hb, hc⟩ := h (by omega)
  have hcell := hc k hk
  have he : ext f n (k : Int).toNat = f k := by simp [ext, hk]
  rw [he]
  clear hc he
  go_enter Tryz.func270, Tryz.ntmps270
  go_wp2
  go_ret
  exact ⟨rfl, rfl⟩
theorem at_out (A : Option Addr) (n c : Nat) (f : Nat → Nat) (i : Int) (w : World) (h0 : (n : Int) ≤ i) (hi : i ≤ 1000002) :
    Calls Tryz.prog 270 #[.slice A n c, .int .i64 i] w fun e w' => e = .returned (.int .u32 ((ext f n i.toNat : Nat) : Int)) ∧ w = w' := by
  obtain ⟨k, rfl⟩ := Int.eq_ofNat_of_zero_le (show 0 ≤ i by omega)
  have hk : ¬ k < n := by omega
  have he : ext f n (k : Int).toNat = 0 := by simp [ext, hk]
  rw [he]
  clear he
  go_enter Tryz.func270, Tryz.ntmps270
  go_wp2
  go_ret
  exact ⟨rfl, rfl⟩
theorem at_any (A : Option Addr) (n c : Nat) (f : Nat → Nat) (i : Int) (w : World) (h0 : 0 ≤ i) (hi : i ≤ 1000002) (hn : n ≤ 1000000) (h : Dg w A n f) :
    Calls Tryz.prog 270 #[.slice A n c, .int .i64 i] w fun e w' => e = .returned (.int .u32 ((ext f n i.toNat : Nat) : Int)) ∧ w = w' := by
  by_cases hk : i < n
  · exact at_in A n c f i w h0 hk hn h
  · exact at_out A n c f i w (by omega) hi
def cmpI (x y : Int) : Int := if x < y then -1 else if y < x then 1 else 0
theorem cmp_int (x y : Int) (w : World) : Calls Tryz.prog 112 #[.int .i64 x, .int .i64 y] w fun e w' => e = .returned (.int .i64 (cmpI x y)) ∧ w = w' := by
  rcases Int.lt_trichotomy x y with h | h | h
  · have e : cmpI x y = -1 := by simp [cmpI, h]
    rw [e]; clear e
    go_enter Tryz.func112, Tryz.ntmps112
    go_wp2
    go_ret
    exact ⟨rfl, rfl⟩
  · subst h
    have e : cmpI x x = 0 := by simp [cmpI]
    rw [e]; clear e
    go_enter Tryz.func112, Tryz.ntmps112
    go_wp2
    go_ret
    exact ⟨rfl, rfl⟩
  · have e : cmpI x y = 1 := by unfold cmpI; rw [if_neg (by omega), if_pos h]
    have h' : ¬ x < y := by omega
    rw [e]; clear e
    go_enter Tryz.func112, Tryz.ntmps112
    go_wp2
    go_ret
    exact ⟨rfl, rfl⟩
theorem cmp_u32 (x y : Int) (w : World) : Calls Tryz.prog 246 #[.int .u32 x, .int .u32 y] w fun e w' => e = .returned (.int .i64 (cmpI x y)) ∧ w = w' := by
  rcases Int.lt_trichotomy x y with h | h | h
  · have e : cmpI x y = -1 := by simp [cmpI, h]
    rw [e]; clear e
    go_enter Tryz.func246, Tryz.ntmps246
    go_wp2
    go_ret
    exact ⟨rfl, rfl⟩
  · subst h
    have e : cmpI x x = 0 := by simp [cmpI]
    rw [e]; clear e
    go_enter Tryz.func246, Tryz.ntmps246
    go_wp2
    go_ret
    exact ⟨rfl, rfl⟩
  · have e : cmpI x y = 1 := by unfold cmpI; rw [if_neg (by omega), if_pos h]
    have h' : ¬ x < y := by omega
    rw [e]; clear e
    go_enter Tryz.func246, Tryz.ntmps246
    go_wp2
    go_ret
    exact ⟨rfl, rfl⟩
theorem ext_lt {f : Nat → Nat} {n : Nat} (h : ∀ i, i < n → f i < W) (k : Nat) : ext f n k < 4294967296 := by
  unfold ext
  split
  · exact h k ‹_›
  · decide
theorem ext_in {f : Nat → Nat} {n k : Nat} (h : k < n) : ext f n k = f k := by simp [ext, h]
theorem ext_out {f : Nat → Nat} {n k : Nat} (h : n ≤ k) : ext f n k = 0 := by unfold ext; rw [if_neg (by omega)]
theorem V_ext {f : Nat → Nat} {n N : Nat} (h : n ≤ N) : V (ext f n) N = V f n := by
  rw [V_tail h fun i h1 _ => ext_out h1]
  exact V_congr fun i hi => ext_in hi
def RetD (x : Nat) (w : World) (e : Ending) (w' : World) : Prop := ∃ v, e = .returned v ∧ D w' v x ∧ Below w.heap.size w w'
def Row (w : World) (g n : Nat) (f : Nat → Nat) : Prop := w.rowIs g 193 n (fun j => .int .u32 ((f j : Nat) : Int))
theorem Row.cell {w : World} {g n : Nat} {f : Nat → Nat} (h : Row w g n f) {i : Nat} (hi : i < n) : w.cell? ⟨g, i, none⟩ = some (.int .u32 ((f i : Nat) : Int)) := World.rowIs.cell h hi
theorem Row.frozen {w : World} {g n : Nat} {f : Nat → Nat} (h : Row w g n f) (i : Nat) : w.frozen? ⟨g, i, none⟩ = false := World.rowIs.frozen h i
theorem Row.lt {w : World} {g n : Nat} {f : Nat → Nat} (h : Row w g n f) : g < w.heap.size := World.rowIs.lt h
theorem Row.set {w : World} {g n : Nat} {f : Nat → Nat} (h : Row w g n f) (i x : Nat) : Row (w.setCell ⟨g, i, none⟩ (.int .u32 (x : Int))) g n (up f i x) := by
  refine World.rowIs.congr (World.rowIs.set h i _) fun j _ => ?_
  unfold up
  split <;> rfl
theorem Row.drewN {w : World} {g n : Nat} {f : Nat → Nat} (h : Row w g n f) (k : Nat) : Row (w.drewN k) g n f := h
theorem Row.drew {w : World} {g n : Nat} {f : Nat → Nat} (h : Row w g n f) : Row w.drew g n f := h
theorem Row.new (w : World) (n : Nat) : Row (w.alloc (.cells (madeCells #[.int .u32 0] n) 193)) w.heap.size n (fun _ => 0) := World.rowIs_made w _ n 193
theorem Row.dg {w : World} {g n c : Nat} {f : Nat → Nat} (h : Row w g c f) (hn : n ≤ c) : Dg w (some ⟨g, 0, none⟩) n f :=
  fun _ => ⟨g, 0, rfl, h.lt, fun i hi => by rw [Nat.zero_add]; exact h.cell (by omega)⟩
theorem Row.tt {w : World} {g n : Nat} {f : Nat → Nat} (h : Row w g n f) (k : Nat) : TT w (some ⟨g, 0, none⟩) k := fun _ => by
  obtain ⟨cs, hc, _⟩ := h
  exact ⟨g, 0, rfl, cs, _, hc⟩
theorem Row.block {w w' : World} {g n : Nat} {f : Nat → Nat} (h : Row w g n f) (e : w'.heap[g]? = w.heap[g]?) : Row w' g n f := World.rowIs.of_block h e
theorem Row.keep {w w' : World} {g n : Nat} {f : Nat → Nat} (h : Row w g n f) (hb : Below w.heap.size w w') : Row w' g n f := h.block (hb.block g h.lt)
theorem Dg.drewN {w : World} {A : Option Addr} {n : Nat} {f : Nat → Nat} (h : Dg w A n f) (k : Nat) : Dg (w.drewN k) A n f := h
theorem Dg.drew {w : World} {A : Option Addr} {n : Nat} {f : Nat → Nat} (h : Dg w A n f) : Dg w.drew A n f := h
theorem info98 : (Tryz.prog.info? 193).map (fun i => (i.zero, i.size, i.bytes)) = some (some (.int .u32 0), 1, 4) := by kernel_rfl
theorem make_row (n : Nat) (h : n ≤ 4000000) (w : World) :
    (Instr.makeSlice 181 (.int .i64 (n : Int)) (.int .i64 (n : Int))).run Tryz.prog w = .ok (.slice (some ⟨w.heap.size, 0, none⟩) n n) (w.alloc (.cells (madeCells #[.int .u32 0] n) 193)) :=
  run_make_row' (P := Tryz.prog) 181 193 (.int .u32 0) 4 Tryz.underlying181 info98 rfl .i64 .i64 n (by omega) (by omega) w
theorem top32 (z : Nat) (h : z < 4294967296) : z / 2147483648 = (z.testBit 31).toNat := by
  rw [Nat.testBit_eq_decide_div_mod_eq]
  have e : (2:Nat)^31 = 2147483648 := by decide
  rw [e]
  by_cases g : z / 2147483648 % 2 = 1 <;> simp [g] <;> omega
theorem top32b (z : Nat) (h : z < 4294967296) : z.testBit 31 = decide (2147483648 ≤ z) := by
  have := top32 z h
  by_cases g : 2147483648 ≤ z
  · have e : z / 2147483648 = 1 := by omega
    rw [e] at this
    cases hb : z.testBit 31 <;> simp_all
  · have e : z / 2147483648 = 0 := by omega
    rw [e] at this
    cases hb : z.testBit 31 <;> simp_all
theorem sub32_nat (x y b d : Nat) (hx : x < 4294967296) (hy : y < 4294967296) (hb : b ≤ 1) (hd : (d : Int) = ((x : Int) - y - b) % 4294967296) :
    (((4294967295 ^^^ x) &&& y) ||| ((4294967295 ^^^ (x ^^^ y)) &&& d)) / 2147483648 = if x < y + b then 1 else 0 := by
  have hd2 : d < 4294967296 := by omega
  have b1 : (4294967295 ^^^ x) &&& y < 4294967296 := Nat.lt_of_le_of_lt Nat.and_le_right hy
  have b2 : (4294967295 ^^^ (x ^^^ y)) &&& d < 4294967296 := Nat.lt_of_le_of_lt Nat.and_le_right hd2
  have hz : ((4294967295 ^^^ x) &&& y) ||| ((4294967295 ^^^ (x ^^^ y)) &&& d) < 4294967296 := Nat.or_lt_two_pow (n := 32) b1 b2
  have e1 : Nat.testBit 4294967295 31 = true := by decide
  rw [top32 _ hz, Nat.testBit_or, Nat.testBit_and, Nat.testBit_and, Nat.testBit_xor, Nat.testBit_xor, Nat.testBit_xor, e1, top32b x hx, top32b y hy, top32b d hd2]
  by_cases g1 : 2147483648 ≤ x <;> by_cases g2 : 2147483648 ≤ y <;> by_cases g3 : 2147483648 ≤ d <;> by_cases g4 : x < y + b <;> simp [g1, g2, g3, g4] <;> omega
theorem sub32_bits (x y b : Int) (h1 : 0 ≤ x) (h2 : x < 4294967296) (h3 : 0 ≤ y) (h4 : y < 4294967296) (h5 : 0 ≤ b) (h6 : b ≤ 1) :
    bits BinOp.or IntKind.u32 (bits BinOp.and IntKind.u32 (bits BinOp.xor IntKind.u32 IntKind.u32.max x) y)
      (bits BinOp.and IntKind.u32 (bits BinOp.xor IntKind.u32 IntKind.u32.max (bits BinOp.xor IntKind.u32 x y)) ((x - y - b) % 4294967296)) / 2147483648 = if x < y + b then 1 else 0 := by
  obtain ⟨x, rfl⟩ := Int.eq_ofNat_of_zero_le h1
  obtain ⟨y, rfl⟩ := Int.eq_ofNat_of_zero_le h3
  obtain ⟨b, rfl⟩ := Int.eq_ofNat_of_zero_le h5
  obtain ⟨d, hd⟩ := Int.eq_ofNat_of_zero_le (show 0 ≤ ((x : Int) - y - b) % 4294967296 by omega)
  have hx : x < 4294967296 := by omega
  have hy : y < 4294967296 := by omega
  have hd2 : d < 4294967296 := by omega
  have em : IntKind.u32.max = ((4294967295 : Nat) : Int) := rfl
  have k1 : 4294967295 ^^^ x < 4294967296 := Nat.xor_lt_two_pow (n := 32) (by decide) hx
  have k2 : x ^^^ y < 4294967296 := Nat.xor_lt_two_pow (n := 32) hx hy
  have k3 : 4294967295 ^^^ (x ^^^ y) < 4294967296 := Nat.xor_lt_two_pow (n := 32) (by decide) k2
  have b1 : (4294967295 ^^^ x) &&& y < 4294967296 := Nat.lt_of_le_of_lt Nat.and_le_right hy
  have b2 : (4294967295 ^^^ (x ^^^ y)) &&& d < 4294967296 := Nat.lt_of_le_of_lt Nat.and_le_right hd2
  rw [hd, em, u32_xor_nat _ _ (by decide) hx, u32_xor_nat x y hx hy, u32_xor_nat _ _ (by decide) k2, u32_and_nat _ _ k1 hy, u32_and_nat _ _ k3 hd2, u32_or_nat _ _ b1 b2]
  have := sub32_nat x y b d hx hy (by omega) hd.symm
  have e2 : (if (x : Int) < y + b then (1 : Int) else 0) = ((if x < y + b then 1 else 0 : Nat) : Int) := by split <;> split <;> omega
  rw [e2, ← this]
  omega
def bor (x y : Int) : Int := if x < y then 1 else 0
theorem bor_01 (x y : Int) : 0 ≤ bor x y ∧ bor x y ≤ 1 := by unfold bor; split <;> omega
theorem sub32_any (x y b : Int) (w : World) (h1 : 0 ≤ x) (h2 : x < 4294967296) (h3 : 0 ≤ y) (h4 : y < 4294967296) (h5 : 0 ≤ b) (h6 : b ≤ 1) :
    Calls Tryz.prog 271 #[.int .u32 x, .int .u32 y, .int .u32 b] w fun e w' => e = .returned (.tuple #[.int .u32 ((x - y - b) % 4294967296), .int .u32 (bor x (y + b))]) ∧ w = w' := by
  have H := Lib.hid (sub32_bits x y b h1 h2 h3 h4 h5 h6)
  go_enter Tryz.func271, Tryz.ntmps271
  go_wp2_with fail
  go_ret2
  refine ⟨?_, rfl⟩
  simp only [bor, ← H.out]
  rfl
end Go.Proofs.YtmfnpipmbpnfbaaGreatDoor
