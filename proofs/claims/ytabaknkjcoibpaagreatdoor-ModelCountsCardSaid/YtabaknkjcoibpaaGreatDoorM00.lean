/- Plain facts on numbers that are written as lists of digits to the base 2^30, the least significant one first. Plain facts on numbers that are written as digits to the base 2^32. Plain facts on long division and on shifts of digits. -/

namespace Go.Proofs.YtabaknkjcoibpaaGreatDoor

/-- The base of the digits. -/
def Bs : Nat := 1073741824
theorem Bs_eq : Bs = 1073741824 := rfl
theorem Bs_pos : 0 < Bs := by decide
theorem Bs_pow_pos (n : Nat) : 0 < Bs ^ n := Nat.pow_pos Bs_pos

/-- The number that a list of digits stands for. -/
def val : List Nat → Nat
  | [] => 0
  | d :: l => d + Bs * val l
/-- All are digits. -/
def Dl (l : List Nat) : Prop := ∀ d ∈ l, d < Bs
/-- There is no digit 0 at the end. -/
def Nz (l : List Nat) : Prop := l = [] ∨ l.getD (l.length - 1) 0 ≠ 0

theorem val_nil : val [] = 0 := rfl
theorem val_append (l m : List Nat) : val (l ++ m) = val l + Bs ^ l.length * val m := by
  induction l with
  | nil => simp [val]
  | cons d l ih =>
    simp only [List.cons_append, val, ih, List.length_cons, Nat.pow_succ, Nat.mul_add]
    rw [← Nat.mul_assoc, Nat.mul_comm Bs (Bs ^ l.length), Nat.add_assoc]
theorem val_one (d : Nat) : val [d] = d := by simp [val]
theorem val_snoc (l : List Nat) (d : Nat) : val (l ++ [d]) = val l + Bs ^ l.length * d := by rw [val_append, val_one]
theorem val_lt {l : List Nat} (h : Dl l) : val l < Bs ^ l.length := by
  induction l with
  | nil => simp [val]
  | cons d l ih =>
    have h1 := ih (fun x hx => h x (List.mem_cons_of_mem _ hx))
    have h2 := h d List.mem_cons_self
    simp only [val, List.length_cons, Nat.pow_succ]
    have h3 : Bs * (val l + 1) ≤ Bs ^ l.length * Bs := by rw [Nat.mul_comm]; exact Nat.mul_le_mul_right _ h1
    rw [Nat.mul_add] at h3
    omega
theorem Dl.nil : Dl [] := fun _ h => by cases h
theorem Dl.snoc {l : List Nat} (h : Dl l) {d : Nat} (hd : d < Bs) : Dl (l ++ [d]) := fun x hx => by
  rcases List.mem_append.1 hx with hx | hx
  · exact h x hx
  · rw [List.mem_singleton.1 hx]; exact hd
theorem Dl.app {l m : List Nat} (h : Dl l) (h' : Dl m) : Dl (l ++ m) := fun x hx => by
  rcases List.mem_append.1 hx with hx | hx
  · exact h x hx
  · exact h' x hx
theorem Dl.take {l : List Nat} (h : Dl l) (k : Nat) : Dl (l.take k) := fun x hx => h x (List.mem_of_mem_take hx)
theorem Dl.drop {l : List Nat} (h : Dl l) (k : Nat) : Dl (l.drop k) := fun x hx => h x (List.mem_of_mem_drop hx)
theorem Dl.getD {l : List Nat} (h : Dl l) (k : Nat) : l.getD k 0 < Bs := by
  by_cases hk : k < l.length
  · simp only [List.getD_eq_getElem?_getD, List.getElem?_eq_getElem hk, Option.getD_some]
    exact h _ (List.getElem_mem hk)
  · simp only [List.getD_eq_getElem?_getD, List.getElem?_eq_none (by omega : l.length ≤ k), Option.getD_none]
    exact Bs_pos
theorem getD_out {l : List Nat} {k : Nat} (h : l.length ≤ k) : l.getD k 0 = 0 := by
  simp only [List.getD_eq_getElem?_getD, List.getElem?_eq_none h, Option.getD_none]
theorem getD_take {l : List Nat} {k i : Nat} (h : i < k) : (l.take k).getD i 0 = l.getD i 0 := by
  simp only [List.getD_eq_getElem?_getD, List.getElem?_take, h, if_true]
theorem getD_drop (l : List Nat) (k i : Nat) : (l.drop k).getD i 0 = l.getD (k + i) 0 := by
  simp only [List.getD_eq_getElem?_getD, List.getElem?_drop]
theorem getD_snoc_old {l : List Nat} {d k : Nat} (h : k < l.length) : (l ++ [d]).getD k 0 = l.getD k 0 := by
  simp only [List.getD_eq_getElem?_getD, List.getElem?_append_left h]
theorem getD_snoc_new (l : List Nat) (d : Nat) : (l ++ [d]).getD l.length 0 = d := by
  simp [List.getD_eq_getElem?_getD]

theorem take_snoc {l : List Nat} {k : Nat} (h : k < l.length) : l.take (k + 1) = l.take k ++ [l.getD k 0] := by
  rw [List.take_add_one, List.getElem?_eq_getElem h, List.getD_eq_getElem?_getD, List.getElem?_eq_getElem h]
  rfl
theorem val_take_succ (l : List Nat) (k : Nat) : val (l.take (k + 1)) = val (l.take k) + Bs ^ k * l.getD k 0 := by
  by_cases h : k < l.length
  · rw [take_snoc h, val_snoc, List.length_take, Nat.min_eq_left (by omega)]
  · rw [List.take_of_length_le (by omega), List.take_of_length_le (by omega), getD_out (by omega)]
    simp
theorem val_take_all {l : List Nat} {k : Nat} (h : l.length ≤ k) : val (l.take k) = val l := by rw [List.take_of_length_le h]
theorem val_split (l : List Nat) {k : Nat} (h : k ≤ l.length) : val l = val (l.take k) + Bs ^ k * val (l.drop k) := by
  conv => lhs; rw [← List.take_append_drop k l]
  rw [val_append, List.length_take, Nat.min_eq_left h]
theorem drop_cons {l : List Nat} {k : Nat} (h : k < l.length) : l.drop k = l.getD k 0 :: l.drop (k + 1) := by
  rw [List.drop_eq_getElem_cons h, List.getD_eq_getElem?_getD, List.getElem?_eq_getElem h]
  rfl
theorem val_drop {l : List Nat} {k : Nat} (h : k < l.length) : val (l.drop k) = l.getD k 0 + Bs * val (l.drop (k + 1)) := by
  rw [drop_cons h]
  rfl

theorem Nz_ge {l : List Nat} (h : Nz l) (hl : l ≠ []) : Bs ^ (l.length - 1) ≤ val l := by
  have h0 : 0 < l.length := List.length_pos_iff.2 hl
  have hd := h.resolve_left hl
  rw [val_split l (k := l.length - 1) (by omega), val_drop (by omega)]
  have : Bs ^ (l.length - 1) * 1 ≤ Bs ^ (l.length - 1) * (l.getD (l.length - 1) 0 + Bs * val (l.drop (l.length - 1 + 1))) := Nat.mul_le_mul_left _ (by omega)
  omega
theorem val_zero {l : List Nat} (h : Nz l) : val l = 0 ↔ l = [] := by
  refine ⟨fun h0 => ?_, fun h0 => by rw [h0]; rfl⟩
  rcases List.eq_nil_or_concat l with h1 | ⟨_, _, h1⟩
  · exact h1
  · have := Nz_ge h (by rw [h1]; simp)
    have h2 := Bs_pow_pos (l.length - 1)
    omega
theorem lt_of_len {a b : List Nat} (ha : Dl a) (hb : Nz b) (h : a.length < b.length) : val a < val b := by
  have h1 := val_lt ha
  have h2 := Nz_ge hb (by intro e; rw [e] at h; simp at h)
  have h3 : Bs ^ a.length ≤ Bs ^ (b.length - 1) := Nat.pow_le_pow_right Bs_pos (by omega)
  omega
theorem lt_of_top {a b : List Nat} (ha : Dl a) (hl : a.length = b.length) {i : Nat} (hi : i < a.length) (hd : a.drop (i + 1) = b.drop (i + 1)) (hlt : a.getD i 0 < b.getD i 0) : val a < val b := by
  have hi' : i < b.length := by omega
  rw [val_split a (k := i) (by omega), val_split b (k := i) (by omega), val_drop (l := a) (k := i) hi, val_drop (l := b) (k := i) hi', hd]
  have h1 := val_lt (ha.take i)
  rw [List.length_take, Nat.min_eq_left (by omega)] at h1
  have h2 : Bs ^ i * (a.getD i 0 + Bs * val (b.drop (i + 1)) + 1) ≤ Bs ^ i * (b.getD i 0 + Bs * val (b.drop (i + 1))) := Nat.mul_le_mul_left _ (by omega)
  rw [Nat.mul_add, Nat.mul_one] at h2
  omega
theorem drop_step {a b : List Nat} {i : Nat} (hi : i < a.length) (hl : a.length = b.length) (hd : a.drop (i + 1) = b.drop (i + 1)) (he : a.getD i 0 = b.getD i 0) : a.drop i = b.drop i := by
  have hi' : i < b.length := by omega
  rw [drop_cons (l := a) (k := i) hi, drop_cons (l := b) (k := i) hi', hd, he]

/-- -1, 0 or 1. -/
def cmpN (x y : Nat) : Int := if x < y then -1 else if y < x then 1 else 0
theorem cmpN_lt {x y : Nat} (h : x < y) : cmpN x y = -1 := if_pos h
theorem cmpN_gt {x y : Nat} (h : y < x) : cmpN x y = 1 := by unfold cmpN; rw [if_neg (by omega), if_pos h]
theorem cmpN_eq (x : Nat) : cmpN x x = 0 := by simp [cmpN]

theorem len_le {l : List Nat} (h : Nz l) {k : Nat} (hx : val l < Bs ^ k) : l.length ≤ k := by
  rcases List.eq_nil_or_concat l with h1 | ⟨_, _, h1⟩
  · rw [h1]; simp
  · have h2 := Nz_ge h (by rw [h1]; simp)
    have h3 : Bs ^ (l.length - 1) < Bs ^ k := Nat.lt_of_le_of_lt h2 hx
    have h4 := (Nat.pow_lt_pow_iff_right (by decide : 1 < Bs)).1 h3
    omega

end Go.Proofs.YtabaknkjcoibpaaGreatDoor

namespace Go.Proofs.YtabaknkjcoibpaaGreatDoor

/-- The base of the digits. -/
def W : Nat := 4294967296

theorem W_pos : 0 < W := by unfold W; omega
theorem W_eq : W = 4294967296 := rfl

/-- The value of the first n digits. -/
def V (f : Nat → Nat) : Nat → Nat
  | 0 => 0
  | n + 1 => V f n + f n * W ^ n

theorem V_zero (f : Nat → Nat) : V f 0 = 0 := rfl
theorem V_succ (f : Nat → Nat) (n : Nat) : V f (n + 1) = V f n + f n * W ^ n := rfl

theorem pow_pos' (n : Nat) : 0 < W ^ n := Nat.pow_pos W_pos
theorem pow_succ' (n : Nat) : W ^ (n + 1) = W ^ n * W := Nat.pow_succ W n

theorem V_congr {f g : Nat → Nat} {n : Nat} (h : ∀ i, i < n → f i = g i) : V f n = V g n := by
  induction n with
  | zero => rfl
  | succ n ih => rw [V_succ, V_succ, ih (fun i hi => h i (by omega)), h n (by omega)]

theorem V_lt {f : Nat → Nat} {n : Nat} (h : ∀ i, i < n → f i < W) : V f n < W ^ n := by
  induction n with
  | zero => simp [V_zero]
  | succ n ih =>
    have h1 := ih (fun i hi => h i (by omega))
    have h2 := h n (by omega)
    rw [V_succ, pow_succ']
    have h3 : (f n + 1) * W ^ n ≤ W * W ^ n := Nat.mul_le_mul_right _ (by omega)
    rw [Nat.add_mul, Nat.one_mul] at h3
    rw [Nat.mul_comm (W ^ n) W]
    omega

theorem V_tail {f : Nat → Nat} {k n : Nat} (hk : k ≤ n) (h : ∀ i, k ≤ i → i < n → f i = 0) : V f n = V f k := by
  induction n with
  | zero => have : k = 0 := by omega
            rw [this]
  | succ n ih =>
    by_cases hkn : k = n + 1
    · rw [hkn]
    · rw [V_succ, h n (by omega) (by omega), ih (by omega) (fun i h1 h2 => h i h1 (by omega))]; simp

theorem V_split (f : Nat → Nat) (k m : Nat) : V f (k + m) = V f k + W ^ k * V (fun i => f (k + i)) m := by
  induction m with
  | zero => simp [V_zero]
  | succ m ih =>
    rw [← Nat.add_assoc, V_succ, V_succ, ih, Nat.mul_add, Nat.pow_add]
    rw [Nat.mul_comm (W ^ k) (f (k + m) * W ^ m), Nat.mul_assoc (f (k + m)), Nat.mul_comm (W ^ m) (W ^ k)]
    omega

theorem V_head (f : Nat → Nat) (m : Nat) : V f (m + 1) = f 0 + W * V (fun i => f (i + 1)) m := by
  have h := V_split f 1 m
  rw [Nat.add_comm 1 m] at h
  rw [h, V_succ, V_zero]
  have : (fun i => f (1 + i)) = (fun i => f (i + 1)) := by funext i; rw [Nat.add_comm]
  rw [this]; simp

theorem V_low {f : Nat → Nat} {n : Nat} (hn : 0 < n) (h : f (n - 1) ≠ 0) : W ^ (n - 1) ≤ V f n := by
  obtain ⟨m, rfl⟩ : ∃ m, n = m + 1 := ⟨n - 1, by omega⟩
  rw [V_succ]
  simp only [Nat.add_sub_cancel] at h ⊢
  have : 1 * W ^ m ≤ f m * W ^ m := Nat.mul_le_mul_right _ (by omega)
  omega

/-- No leading zero. -/
def Nrm (f : Nat → Nat) (n : Nat) : Prop := n = 0 ∨ f (n - 1) ≠ 0

theorem V_pos {f : Nat → Nat} {n : Nat} (hn : 0 < n) (h : Nrm f n) : W ^ (n - 1) ≤ V f n := by
  rcases h with h | h
  · omega
  · exact V_low hn h

theorem pow_le {a b : Nat} (h : a ≤ b) : W ^ a ≤ W ^ b := Nat.pow_le_pow_right W_pos h

theorem len_of_lt {f : Nat → Nat} {n k : Nat} (h : Nrm f n) (hv : V f n < W ^ k) : n ≤ k := by
  rcases Nat.eq_zero_or_pos n with h0 | h0
  · omega
  · have h1 := V_pos h0 h
    rcases Nat.lt_or_ge k n with hk | hk
    · have := pow_le (show k ≤ n - 1 by omega); omega
    · exact hk

theorem V_zero_iff {f : Nat → Nat} {n : Nat} (h : Nrm f n) : V f n = 0 ↔ n = 0 := by
  constructor
  · intro hv
    rcases Nat.eq_zero_or_pos n with h0 | h0
    · exact h0
    · have h1 := V_pos h0 h
      have := pow_pos' (n - 1)
      omega
  · rintro rfl; rfl

theorem V_lt_of_len {f g : Nat → Nat} {n m : Nat} (hf : ∀ i, i < n → f i < W) (hg : Nrm g m) (h : n < m) : V f n < V g m := by
  have h1 := V_lt hf
  have h2 := V_pos (by omega) hg
  have := pow_le (show n ≤ m - 1 by omega)
  omega

/-- The digits from i on agree. -/
theorem V_lt_of_digit {f g : Nat → Nat} {n i : Nat} (hi : i < n) (hf : ∀ j, j < n → f j < W) (h : ∀ j, i < j → j < n → f j = g j) (hlt : f i < g i) : V f n < V g n := by
  obtain ⟨m, rfl⟩ : ∃ m, n = (i + 1) + m := ⟨n - (i + 1), by omega⟩
  rw [V_split f (i + 1) m, V_split g (i + 1) m]
  have e : V (fun j => f (i + 1 + j)) m = V (fun j => g (i + 1 + j)) m := V_congr fun j hj => h _ (by omega) (by omega)
  rw [e, V_succ, V_succ]
  have h1 : V f i < W ^ i := V_lt fun j hj => hf j (by omega)
  have h2 : (f i + 1) * W ^ i ≤ g i * W ^ i := Nat.mul_le_mul_right _ (by omega)
  rw [Nat.add_mul, Nat.one_mul] at h2
  omega

/-- Two lists of digits without leading zeros and with one value are one. -/
theorem V_inj {f g : Nat → Nat} {n : Nat} (hf : ∀ i, i < n → f i < W) (hg : ∀ i, i < n → g i < W) (h : V f n = V g n) : ∀ i, i < n → f i = g i := by
  induction n with
  | zero => intro i hi; omega
  | succ n ih =>
    rw [V_succ, V_succ] at h
    have a := V_lt (f := f) (n := n) fun i hi => hf i (by omega)
    have b := V_lt (f := g) (n := n) fun i hi => hg i (by omega)
    have e : f n = g n := by
      rcases Nat.lt_trichotomy (f n) (g n) with c | c | c
      · have : (f n + 1) * W ^ n ≤ g n * W ^ n := Nat.mul_le_mul_right _ (by omega)
        rw [Nat.add_mul, Nat.one_mul] at this; omega
      · exact c
      · have : (g n + 1) * W ^ n ≤ f n * W ^ n := Nat.mul_le_mul_right _ (by omega)
        rw [Nat.add_mul, Nat.one_mul] at this; omega
    rw [e] at h
    intro i hi
    by_cases hn : i = n
    · rw [hn]; exact e
    · exact ih (fun i hi => hf i (by omega)) (fun i hi => hg i (by omega)) (by omega) i (by omega)

/-- One digit is turned. -/
def up (f : Nat → Nat) (i x : Nat) : Nat → Nat := fun j => if j = i then x else f j
theorem up_at (f : Nat → Nat) (i x : Nat) : up f i x i = x := by simp [up]
theorem up_far (f : Nat → Nat) {i j : Nat} (x : Nat) (h : j ≠ i) : up f i x j = f j := by simp [up, h]
theorem V_up_below (f : Nat → Nat) {i n : Nat} (x : Nat) (h : n ≤ i) : V (up f i x) n = V f n :=
  V_congr fun j hj => up_far f x (by omega)

/-- One step of a sum. -/
theorem add_step {F X Y i c s : Nat} (x y : Nat) (h : F + c * W ^ i = X + Y) (hs : s = x + y + c) :
    (F + (s % W) * W ^ i) + (s / W) * W ^ (i + 1) = (X + x * W ^ i) + (Y + y * W ^ i) := by
  have e : s % W + W * (s / W) = s := Nat.mod_add_div s W
  have : (s % W) * W ^ i + (s / W) * W ^ (i + 1) = s * W ^ i := by
    rw [pow_succ', Nat.mul_comm (W ^ i) W, ← Nat.mul_assoc, ← Nat.add_mul, Nat.mul_comm (s / W) W, e]
  have e2 : s * W ^ i = x * W ^ i + y * W ^ i + c * W ^ i := by rw [hs, Nat.add_mul, Nat.add_mul]
  omega

/-- One step of a difference: d - y - b is r with the new debt e. -/
theorem sub_step {F X Y i b r e : Nat} (x y : Nat) (h : F + Y = X + b * W ^ i) (hr : r + y + b = x + e * W) :
    (F + r * W ^ i) + (Y + y * W ^ i) = (X + x * W ^ i) + e * W ^ (i + 1) := by
  have h2 : (r + y + b) * W ^ i = (x + e * W) * W ^ i := by rw [hr]
  rw [Nat.add_mul, Nat.add_mul, Nat.add_mul, Nat.mul_assoc e W, Nat.mul_comm W (W ^ i), ← pow_succ'] at h2
  omega

/-- One step of adding a multiple. -/
theorem mac_step {F X Y i c s q : Nat} (a y : Nat) (h : F + c * W ^ i = X + q * Y) (hs : s = q * y + a + c) :
    (F + (s % W) * W ^ i) + (s / W) * W ^ (i + 1) = (X + a * W ^ i) + q * (Y + y * W ^ i) := by
  have e : s % W + W * (s / W) = s := Nat.mod_add_div s W
  have h1 : (s % W) * W ^ i + (s / W) * W ^ (i + 1) = s * W ^ i := by
    rw [pow_succ', Nat.mul_comm (W ^ i) W, ← Nat.mul_assoc, ← Nat.add_mul, Nat.mul_comm (s / W) W, e]
  have e2 : s * W ^ i = q * (y * W ^ i) + a * W ^ i + c * W ^ i := by rw [hs, Nat.add_mul, Nat.add_mul, Nat.mul_assoc]
  rw [Nat.mul_add]
  omega

end Go.Proofs.YtabaknkjcoibpaaGreatDoor

namespace Go.Proofs.YtabaknkjcoibpaaGreatDoor

/-- The guess is not below the quotient and at most 1 above it. U is the number of n + 1 digits, D the divisor of n digits. -/
theorem guess_low {U D T B2 P g : Nat} (hT : T = U / P) (hP : 0 < P) (hB : B2 = D / P) (h : T < g * B2) : U < g * D := by
  have h1 : U < (T + 1) * P := by rw [hT, Nat.mul_comm, Nat.mul_add, Nat.mul_one]; exact Nat.lt_mul_div_succ U hP
  have h2 : (T + 1) * P ≤ g * B2 * P := Nat.mul_le_mul_right _ h
  have h3 : B2 * P ≤ D := by rw [hB]; exact Nat.div_mul_le_self D P
  have h4 : g * (B2 * P) ≤ g * D := Nat.mul_le_mul_left _ h3
  rw [← Nat.mul_assoc] at h4
  omega

theorem guess_high {U D T B2 P g : Nat} (hT : T = U / P) (hP : 0 < P) (hB : B2 = D / P) (h : g * B2 ≤ T) (hg : g < W) (hD : W * P ≤ D) : g * D < U + D := by
  have h1 : T * P ≤ U := by rw [hT]; exact Nat.div_mul_le_self U P
  have h2 : g * B2 * P ≤ T * P := Nat.mul_le_mul_right _ h
  have h3 : D < (B2 + 1) * P := by rw [hB, Nat.mul_comm, Nat.mul_add, Nat.mul_one]; exact Nat.lt_mul_div_succ D hP
  rcases Nat.eq_zero_or_pos g with h0 | h0
  · subst h0; have := Nat.mul_pos W_pos hP; omega
  · have h4 : g * D ≤ g * ((B2 + 1) * P) := Nat.mul_le_mul_left _ (Nat.le_of_lt h3)
    have e : g * ((B2 + 1) * P) = g * B2 * P + g * P := by rw [Nat.add_mul, Nat.one_mul, Nat.mul_add, Nat.mul_assoc]
    have h5 : g * P < W * P := Nat.mul_lt_mul_of_pos_right hg hP
    omega

/-- The quotient that a guess leads to. -/
theorem quotient_of {U D g : Nat} (h1 : U < (g + 1) * D) (h2 : g * D ≤ U) : U / D = g ∧ U % D = U - g * D := by
  have hD : 0 < D := by
    rcases Nat.eq_zero_or_pos D with h | h
    · subst h; simp at h1
    · exact h
  have e : U / D = g := by
    refine Nat.div_eq_of_lt_le ?_ ?_
    · exact h2
    · exact h1
  refine ⟨e, ?_⟩
  have := Nat.mod_add_div U D
  rw [e, Nat.mul_comm] at this
  omega

/-- One step of subtracting a multiple. -/
theorem msub_step {F X Y i c b s r e : Nat} (a y q : Nat) (h : F + q * Y = X + (c + b) * W ^ i) (hs : s = q * y + c) (hr : r + s % W + b = a + e * W) :
    (F + r * W ^ i) + q * (Y + y * W ^ i) = (X + a * W ^ i) + (s / W + e) * W ^ (i + 1) := by
  have e1 : s % W + W * (s / W) = s := Nat.mod_add_div s W
  have h1 : r + q * y + (c + b) = a + (s / W + e) * W := by
    rw [Nat.add_mul, Nat.mul_comm (s / W) W]; omega
  have h2 : (r + q * y + (c + b)) * W ^ i = (a + (s / W + e) * W) * W ^ i := by rw [h1]
  rw [Nat.add_mul, Nat.add_mul, Nat.add_mul a, Nat.mul_assoc (s / W + e), Nat.mul_comm W (W ^ i), ← pow_succ'] at h2
  rw [Nat.mul_add, ← Nat.mul_assoc]
  omega

/-- The digits of a number. -/
theorem V_digits (Y n : Nat) : V (fun i => Y / W ^ i % W) n = Y % W ^ n := by
  induction n with
  | zero => simp [V_zero, Nat.mod_one]
  | succ n ih => rw [V_succ, ih, pow_succ', Nat.mod_mul, Nat.mul_comm (W ^ n)]

theorem V_digit {f : Nat → Nat} {n i : Nat} (hf : ∀ j, j < n → f j < W) (hi : i < n) : V f n / W ^ i % W = f i := by
  obtain ⟨m, rfl⟩ : ∃ m, n = i + (m + 1) := ⟨n - i - 1, by omega⟩
  rw [V_split, V_head]
  have h1 : V f i < W ^ i := V_lt fun j hj => hf j (by omega)
  rw [Nat.add_mul_div_left _ _ (pow_pos' i), Nat.div_eq_of_lt h1, Nat.zero_add, Nat.add_mul_mod_self_left]
  simpa using Nat.mod_eq_of_lt (hf i (by omega))

theorem V_drop {f : Nat → Nat} {n i : Nat} (hf : ∀ j, j < n → f j < W) (hi : i ≤ n) : V (fun j => f (i + j)) (n - i) = V f n / W ^ i := by
  obtain ⟨m, rfl⟩ : ∃ m, n = i + m := ⟨n - i, by omega⟩
  rw [V_split]
  have h1 : V f i < W ^ i := V_lt fun j hj => hf j (by omega)
  rw [Nat.add_mul_div_left _ _ (pow_pos' i), Nat.div_eq_of_lt h1, Nat.zero_add, Nat.add_sub_cancel_left]

theorem W_two (n : Nat) (h : n ≤ 32) : W = 2 ^ n * 2 ^ (32 - n) := by
  rw [← Nat.pow_add, show n + (32 - n) = 32 from by omega]; rfl

/-- One step of a shift to the left: c is what the digit before left over. -/
theorem shl_step {F X i c d n : Nat} (h : F + c * W ^ i = X * 2 ^ n) :
    (F + ((d * 2 ^ n) % W + c) * W ^ i) + (d * 2 ^ n / W) * W ^ (i + 1) = (X + d * W ^ i) * 2 ^ n := by
  have e : (d * 2 ^ n) % W + W * (d * 2 ^ n / W) = d * 2 ^ n := Nat.mod_add_div _ W
  have h1 : (d * 2 ^ n) % W * W ^ i + (d * 2 ^ n / W) * W ^ (i + 1) = d * 2 ^ n * W ^ i := by
    rw [pow_succ', Nat.mul_comm (W ^ i) W, ← Nat.mul_assoc, ← Nat.add_mul, Nat.mul_comm (d * 2 ^ n / W) W, e]
  rw [Nat.add_mul X, Nat.mul_assoc d, Nat.mul_comm (W ^ i) (2 ^ n), ← Nat.mul_assoc, Nat.add_mul]
  omega

/-- A digit of a number that is shifted to the right. -/
theorem shr_digit (X n i : Nat) (hn : n < 32) : (X / W ^ i % W + W * (X / W ^ (i + 1) % W)) / 2 ^ n % W = X / 2 ^ n / W ^ i % W := by
  have e1 : X / W ^ i % W + W * (X / W ^ (i + 1) % W) = X / W ^ i % (W * W) := by
    rw [Nat.mod_mul, Nat.div_div_eq_div_mul, pow_succ']
  have e2 : X / 2 ^ n / W ^ i = X / W ^ i / 2 ^ n := by rw [Nat.div_div_eq_div_mul, Nat.div_div_eq_div_mul, Nat.mul_comm]
  rw [e1, e2]
  generalize X / W ^ i = Y
  have hw := W_two n (by omega)
  have e3 : W * W = 2 ^ n * (2 ^ (32 - n) * W) := by rw [← Nat.mul_assoc, ← hw]
  rw [e3, Nat.mod_mul_right_div_self, Nat.mod_mod_of_dvd _ ⟨2 ^ (32 - n), Nat.mul_comm _ _⟩]

end Go.Proofs.YtabaknkjcoibpaaGreatDoor
