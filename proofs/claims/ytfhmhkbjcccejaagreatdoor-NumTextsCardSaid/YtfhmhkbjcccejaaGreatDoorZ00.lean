/- The step from a law's contract to its row: the call leaves a world of which it is known that nothing below has changed. Plain facts on numbers that are written as digits to the base 2^32. Decimal texts, as plain facts. Plain facts on long division and on shifts of digits. -/
import Derived.Test.YtfhmhkbjcccejaaGreatDoorRows
import Derived.WalkKit
import Derived.ProofKit
import Derived.OpenShut
import Derived.Below
import Derived.ChangeSame
import Derived.Lib.SmallJoins
import Derived.Lib.ItoaNum
import Derived.Lib.IndexMore

namespace Go.Proofs.YtfhmhkbjcccejaaGreatDoor
open Go.ChangeShapes Go.WideShapes Go.ChangeAt Go.RowKit Go.Joins

theorem Tryz.own : ownKnob Tryz.prog.godebug = none := by kernel_rfl
theorem Tryz.cells23 : Tryz.prog.cellsOf 23 = 2 := by kernel_rfl

section
variable {H : Type} {enc : TypeId × Value → H} {P : Program}
theorem post_of_below {f : Func} {s : ChangeSpec} {apart fresh handsOn again : Bool} {W W' : World} {args : Array Value} {v : Value} {ds gs : List (DataW H)} {before pa pv : List MemPlace}
    (hW : DataW.Whole enc P f.params.toList s.vars apart W args.toList ds gs before)
    (hres : ∀ (b : Nat) (sp : Nat → Bool) (hd : Bool), DataW.TrodAll enc P W' b sp hd f.resultTypes.toList (v.resultList f.resultTypes.size) (s.fn H (ds ++ gs)).results [])
    (hargs : ∀ sp : Nat → Bool, (∀ p ∈ before, sp p.block = true) → DataW.TrodAll enc P W' 0 sp true f.params.toList args.toList (s.fn H (ds ++ gs)).args pa)
    (hvars : ∀ sp : Nat → Bool, (∀ p ∈ before, sp p.block = true) → DataW.TrodVars enc P W' sp s.vars (s.fn H (ds ++ gs)).vars pv)
    (hps : before = pa ++ pv) (hb : Below W.heap.size W W')
    (hok : ∀ (j : Nat) (t : TypeId) (r : Value), f.resultTypes[j]? = some t → (v.resultList f.resultTypes.size)[j]? = some r → Value.okWide P W' .any 0 t r) :
    s.post enc P f apart fresh handsOn again W args v W' := by
  have hlt : ∀ p ∈ before, p.block < W.heap.size := fun p hp => hW.lt p hp
  have hold : ∀ p ∈ before, (fun b => decide (b < W.heap.size)) p.block = true := fun p hp => by simpa using hlt p hp
  refine ⟨ds, gs, before, [], pa, pv, hW, hres _ _ _, hargs _ hold, hvars _ hold, World.keptBut_mono (fun p hp => ⟨hp, ?_⟩) (hb.frame (· ∈ before)), fun _ => ?_⟩
  · rw [hps, List.mem_append] at hp
    exact Or.inr hp
  · obtain ⟨_, _, _, _, _, hz, hn⟩ := hW
    refine ⟨hok, _, _, ([] ++ pa) ++ pv, ⟨[] ++ pa, pv, trodAll_append (hargs _ (fun _ _ => rfl)) (hres _ _ _), hvars _ (fun _ _ => rfl), rfl, ?_, ?_⟩, ?_⟩
    · intro b off hp
      have hin : MemPlace.cell b off ∈ before := by rw [hps]; simpa using hp
      rw [hb.frozen (hlt _ hin)]
      exact hz b off hin
    · intro ha
      have := hn ha
      rw [hps] at this
      simpa using this
    · intro p hp _
      rw [hps]
      simpa using hp
end

set_option maxRecDepth 100000 in
/-- A number as an argument: opened. -/
theorem open_num {H : Type} {enc : TypeId × Value → H} {W : World} {base b0 : Nat} {spare : Nat → Bool} {held : Bool} {v : Value} {d : DataW H} {p : List MemPlace} {r : Reach} (hv : Value.okWide Tryz.prog W r b0 23 v) (h : DataW.Trod enc Tryz.prog W base spare held 23 v d p) :
    ∃ a b : Int, v = .agg #[.int .i64 a, .int .i64 b] ∧ d = .agg [.lit (.int .i64 a), .lit (.int .i64 b)] ∧ p = [] ∧ (Lit.int .i64 a).wf = true ∧ (Lit.int .i64 b).wf = true := by
  obtain ⟨c0, c1, y0, y1, m, rfl, rfl, rfl, hy0, hy1⟩ := open_agg2 Tryz.underlying23 (by kernel_rfl) Tryz.cells23 hv h
  obtain ⟨a, e0, rfl, wa⟩ := DataW.trod_int Tryz.underlying3 hy0
  obtain ⟨b, e1, rfl, wb⟩ := DataW.trod_int Tryz.underlying3 hy1
  simp at e0 e1
  subst e0 e1
  exact ⟨a, b, rfl, rfl, rfl, wa, wb⟩

set_option maxRecDepth 100000 in
/-- .. and shut. -/
theorem shut_num {H : Type} {enc : TypeId × Value → H} {W : World} {base : Nat} {spare : Nat → Bool} {held : Bool} {a b : Int} (wa : (Lit.int .i64 a).wf = true) (wb : (Lit.int .i64 b).wf = true) :
    DataW.Trod enc Tryz.prog W base spare held 23 (.agg #[.int .i64 a, .int .i64 b]) (.agg [.lit (.int .i64 a), .lit (.int .i64 b)]) [] :=
  shut_agg2 (y0 := (.lit (.int .i64 a), [])) (y1 := (.lit (.int .i64 b), [])) Tryz.underlying23 (by kernel_rfl) Tryz.cells23 ⟨1, by simp [DataW.trod, Tryz.underlying3, wa]⟩ ⟨1, by simp [DataW.trod, Tryz.underlying3, wb]⟩

end Go.Proofs.YtfhmhkbjcccejaaGreatDoor

namespace Go.Proofs.YtfhmhkbjcccejaaGreatDoor

/-- The base of the digits. -/
def W : Nat := 4294967296

theorem W_pos : 0 < W := by unfold W; omega
theorem W_eq : W = 4294967296 := rfl

/-- The value of the first n digits. -/
def V (f : Nat → Nat) : Nat → Nat
  | 0 => 0
  | n + 1 => V f n + f n * W ^ n

theorem V_zero (f : Nat → Nat) : V f 0 = 0 := rfl
theorem V_succ (f : Nat → Nat) (n : Nat) : V f (n + 1) = V f n + f n * W ^ n := rfl

theorem pow_pos' (n : Nat) : 0 < W ^ n := Nat.pow_pos W_pos
theorem pow_succ' (n : Nat) : W ^ (n + 1) = W ^ n * W := Nat.pow_succ W n

theorem V_congr {f g : Nat → Nat} {n : Nat} (h : ∀ i, i < n → f i = g i) : V f n = V g n := by
  induction n with
  | zero => rfl
  | succ n ih => rw [V_succ, V_succ, ih (fun i hi => h i (by omega)), h n (by omega)]

theorem V_lt {f : Nat → Nat} {n : Nat} (h : ∀ i, i < n → f i < W) : V f n < W ^ n := by
  induction n with
  | zero => simp [V_zero]
  | succ n ih =>
    have h1 := ih (fun i hi => h i (by omega))
    have h2 := h n (by omega)
    rw [V_succ, pow_succ']
    have h3 : (f n + 1) * W ^ n ≤ W * W ^ n := Nat.mul_le_mul_right _ (by omega)
    rw [Nat.add_mul, Nat.one_mul] at h3
    rw [Nat.mul_comm (W ^ n) W]
    omega

theorem V_tail {f : Nat → Nat} {k n : Nat} (hk : k ≤ n) (h : ∀ i, k ≤ i → i < n → f i = 0) : V f n = V f k := by
  induction n with
  | zero => have : k = 0 := by omega
            rw [this]
  | succ n ih =>
    by_cases hkn : k = n + 1
    · rw [hkn]
    · rw [V_succ, h n (by omega) (by omega), ih (by omega) (fun i h1 h2 => h i h1 (by omega))]; simp

theorem V_split (f : Nat → Nat) (k m : Nat) : V f (k + m) = V f k + W ^ k * V (fun i => f (k + i)) m := by
  induction m with
  | zero => simp [V_zero]
  | succ m ih =>
    rw [← Nat.add_assoc, V_succ, V_succ, ih, Nat.mul_add, Nat.pow_add]
    rw [Nat.mul_comm (W ^ k) (f (k + m) * W ^ m), Nat.mul_assoc (f (k + m)), Nat.mul_comm (W ^ m) (W ^ k)]
    omega

theorem V_head (f : Nat → Nat) (m : Nat) : V f (m + 1) = f 0 + W * V (fun i => f (i + 1)) m := by
  have h := V_split f 1 m
  rw [Nat.add_comm 1 m] at h
  rw [h, V_succ, V_zero]
  have : (fun i => f (1 + i)) = (fun i => f (i + 1)) := by funext i; rw [Nat.add_comm]
  rw [this]; simp

theorem V_low {f : Nat → Nat} {n : Nat} (hn : 0 < n) (h : f (n - 1) ≠ 0) : W ^ (n - 1) ≤ V f n := by
  obtain ⟨m, rfl⟩ : ∃ m, n = m + 1 := ⟨n - 1, by omega⟩
  rw [V_succ]
  simp only [Nat.add_sub_cancel] at h ⊢
  have : 1 * W ^ m ≤ f m * W ^ m := Nat.mul_le_mul_right _ (by omega)
  omega

/-- No leading zero. -/
def Nrm (f : Nat → Nat) (n : Nat) : Prop := n = 0 ∨ f (n - 1) ≠ 0

theorem V_pos {f : Nat → Nat} {n : Nat} (hn : 0 < n) (h : Nrm f n) : W ^ (n - 1) ≤ V f n := by
  rcases h with h | h
  · omega
  · exact V_low hn h

theorem pow_le {a b : Nat} (h : a ≤ b) : W ^ a ≤ W ^ b := Nat.pow_le_pow_right W_pos h

theorem len_of_lt {f : Nat → Nat} {n k : Nat} (h : Nrm f n) (hv : V f n < W ^ k) : n ≤ k := by
  rcases Nat.eq_zero_or_pos n with h0 | h0
  · omega
  · have h1 := V_pos h0 h
    rcases Nat.lt_or_ge k n with hk | hk
    · have := pow_le (show k ≤ n - 1 by omega); omega
    · exact hk

theorem V_zero_iff {f : Nat → Nat} {n : Nat} (h : Nrm f n) : V f n = 0 ↔ n = 0 := by
  constructor
  · intro hv
    rcases Nat.eq_zero_or_pos n with h0 | h0
    · exact h0
    · have h1 := V_pos h0 h
      have := pow_pos' (n - 1)
      omega
  · rintro rfl; rfl

theorem V_lt_of_len {f g : Nat → Nat} {n m : Nat} (hf : ∀ i, i < n → f i < W) (hg : Nrm g m) (h : n < m) : V f n < V g m := by
  have h1 := V_lt hf
  have h2 := V_pos (by omega) hg
  have := pow_le (show n ≤ m - 1 by omega)
  omega

/-- The digits from i on agree. -/
theorem V_lt_of_digit {f g : Nat → Nat} {n i : Nat} (hi : i < n) (hf : ∀ j, j < n → f j < W) (h : ∀ j, i < j → j < n → f j = g j) (hlt : f i < g i) : V f n < V g n := by
  obtain ⟨m, rfl⟩ : ∃ m, n = (i + 1) + m := ⟨n - (i + 1), by omega⟩
  rw [V_split f (i + 1) m, V_split g (i + 1) m]
  have e : V (fun j => f (i + 1 + j)) m = V (fun j => g (i + 1 + j)) m := V_congr fun j hj => h _ (by omega) (by omega)
  rw [e, V_succ, V_succ]
  have h1 : V f i < W ^ i := V_lt fun j hj => hf j (by omega)
  have h2 : (f i + 1) * W ^ i ≤ g i * W ^ i := Nat.mul_le_mul_right _ (by omega)
  rw [Nat.add_mul, Nat.one_mul] at h2
  omega

/-- Two lists of digits without leading zeros and with one value are one. -/
theorem V_inj {f g : Nat → Nat} {n : Nat} (hf : ∀ i, i < n → f i < W) (hg : ∀ i, i < n → g i < W) (h : V f n = V g n) : ∀ i, i < n → f i = g i := by
  induction n with
  | zero => intro i hi; omega
  | succ n ih =>
    rw [V_succ, V_succ] at h
    have a := V_lt (f := f) (n := n) fun i hi => hf i (by omega)
    have b := V_lt (f := g) (n := n) fun i hi => hg i (by omega)
    have e : f n = g n := by
      rcases Nat.lt_trichotomy (f n) (g n) with c | c | c
      · have : (f n + 1) * W ^ n ≤ g n * W ^ n := Nat.mul_le_mul_right _ (by omega)
        rw [Nat.add_mul, Nat.one_mul] at this; omega
      · exact c
      · have : (g n + 1) * W ^ n ≤ f n * W ^ n := Nat.mul_le_mul_right _ (by omega)
        rw [Nat.add_mul, Nat.one_mul] at this; omega
    rw [e] at h
    intro i hi
    by_cases hn : i = n
    · rw [hn]; exact e
    · exact ih (fun i hi => hf i (by omega)) (fun i hi => hg i (by omega)) (by omega) i (by omega)

/-- One digit is turned. -/
def up (f : Nat → Nat) (i x : Nat) : Nat → Nat := fun j => if j = i then x else f j
theorem up_at (f : Nat → Nat) (i x : Nat) : up f i x i = x := by simp [up]
theorem up_far (f : Nat → Nat) {i j : Nat} (x : Nat) (h : j ≠ i) : up f i x j = f j := by simp [up, h]
theorem V_up_below (f : Nat → Nat) {i n : Nat} (x : Nat) (h : n ≤ i) : V (up f i x) n = V f n :=
  V_congr fun j hj => up_far f x (by omega)

/-- One step of a sum. -/
theorem add_step {F X Y i c s : Nat} (x y : Nat) (h : F + c * W ^ i = X + Y) (hs : s = x + y + c) :
    (F + (s % W) * W ^ i) + (s / W) * W ^ (i + 1) = (X + x * W ^ i) + (Y + y * W ^ i) := by
  have e : s % W + W * (s / W) = s := Nat.mod_add_div s W
  have : (s % W) * W ^ i + (s / W) * W ^ (i + 1) = s * W ^ i := by
    rw [pow_succ', Nat.mul_comm (W ^ i) W, ← Nat.mul_assoc, ← Nat.add_mul, Nat.mul_comm (s / W) W, e]
  have e2 : s * W ^ i = x * W ^ i + y * W ^ i + c * W ^ i := by rw [hs, Nat.add_mul, Nat.add_mul]
  omega

/-- One step of a difference: d - y - b is r with the new debt e. -/
theorem sub_step {F X Y i b r e : Nat} (x y : Nat) (h : F + Y = X + b * W ^ i) (hr : r + y + b = x + e * W) :
    (F + r * W ^ i) + (Y + y * W ^ i) = (X + x * W ^ i) + e * W ^ (i + 1) := by
  have h2 : (r + y + b) * W ^ i = (x + e * W) * W ^ i := by rw [hr]
  rw [Nat.add_mul, Nat.add_mul, Nat.add_mul, Nat.mul_assoc e W, Nat.mul_comm W (W ^ i), ← pow_succ'] at h2
  omega

/-- One step of adding a multiple. -/
theorem mac_step {F X Y i c s q : Nat} (a y : Nat) (h : F + c * W ^ i = X + q * Y) (hs : s = q * y + a + c) :
    (F + (s % W) * W ^ i) + (s / W) * W ^ (i + 1) = (X + a * W ^ i) + q * (Y + y * W ^ i) := by
  have e : s % W + W * (s / W) = s := Nat.mod_add_div s W
  have h1 : (s % W) * W ^ i + (s / W) * W ^ (i + 1) = s * W ^ i := by
    rw [pow_succ', Nat.mul_comm (W ^ i) W, ← Nat.mul_assoc, ← Nat.add_mul, Nat.mul_comm (s / W) W, e]
  have e2 : s * W ^ i = q * (y * W ^ i) + a * W ^ i + c * W ^ i := by rw [hs, Nat.add_mul, Nat.add_mul, Nat.mul_assoc]
  rw [Nat.mul_add]
  omega

end Go.Proofs.YtfhmhkbjcccejaaGreatDoor

namespace Go.Proofs.YtfhmhkbjcccejaaGreatDoor
open Go

/-- A decimal digit. -/
def isDg (c : UInt8) : Bool := decide (48 ≤ c.toNat) && decide (c.toNat ≤ 57)
/-- One or more decimal digits. -/
def isDec (l : List UInt8) : Bool := l.all isDg && !l.isEmpty
/-- The value of decimal digits, behind a number. -/
def decV (a : Nat) : List UInt8 → Nat
  | [] => a
  | c :: l => decV (a * 10 + (c.toNat - 48)) l

theorem decV_append (a : Nat) (l k : List UInt8) : decV a (l ++ k) = decV (decV a l) k := by
  induction l generalizing a with
  | nil => rfl
  | cons c l ih => exact ih _

theorem isDg_le {c : UInt8} (h : isDg c = true) : 48 ≤ c.toNat ∧ c.toNat ≤ 57 := by
  obtain ⟨h1, h2⟩ := Bool.and_eq_true_iff.1 h
  exact ⟨of_decide_eq_true h1, of_decide_eq_true h2⟩

theorem decV_lt : ∀ {l : List UInt8}, l.all isDg = true → ∀ a : Nat, decV a l < (a + 1) * 10 ^ l.length
  | [], _, a => by rw [List.length_nil, Nat.pow_zero, Nat.mul_one]; exact Nat.lt_succ_self a
  | c :: l, h, a => by
    rw [List.all_cons, Bool.and_eq_true] at h
    have hc := (isDg_le h.1).2
    have h1 := decV_lt h.2 (a * 10 + (c.toNat - 48))
    have h3 : a * 10 + (c.toNat - 48) + 1 ≤ (a + 1) * 10 := by omega
    have h2 := Nat.mul_le_mul_right (10 ^ l.length) h3
    rw [List.length_cons, Nat.pow_succ, Nat.mul_comm (10 ^ l.length) 10, ← Nat.mul_assoc]
    exact Nat.lt_of_lt_of_le h1 h2

theorem dg_toNat {d : Nat} (h : d < 10) : (UInt8.ofNat (48 + d)).toNat = 48 + d := by
  rw [UInt8.toNat_ofNat']
  omega

theorem isDg_of {d : Nat} (h : d < 10) : isDg (UInt8.ofNat (48 + d)) = true := by
  unfold isDg
  rw [dg_toNat h]
  simp
  omega

theorem decDigits_spec (u : Nat) : (Lib.decDigits u).all isDg = true ∧ Lib.decDigits u ≠ [] ∧ decV 0 (Lib.decDigits u) = u := by
  induction u using Nat.strongRecOn with
  | ind u ih =>
    by_cases h : u < 10
    · rw [Lib.decDigits_one h]
      refine ⟨by rw [List.all_cons, isDg_of h]; rfl, by simp, ?_⟩
      show 0 * 10 + ((UInt8.ofNat (48 + u)).toNat - 48) = u
      rw [dg_toNat h]
      omega
    · obtain ⟨h1, h2, h3⟩ := ih (u / 10) (by omega)
      rw [Lib.decDigits, dif_neg h]
      have hd : u % 10 < 10 := by omega
      refine ⟨by rw [List.all_append, h1, List.all_cons, isDg_of hd]; rfl, by simp, ?_⟩
      rw [decV_append, h3]
      show u / 10 * 10 + ((UInt8.ofNat (48 + u % 10)).toNat - 48) = u
      rw [dg_toNat hd]
      omega

theorem nDigits_le {k : Nat} : ∀ u, u < 10 ^ (k + 1) → Lib.nDigits u ≤ k + 1 := by
  induction k with
  | zero =>
    intro u hu
    rw [Lib.nDigits, dif_pos (by simpa using hu)]
    exact Nat.le_refl _
  | succ k ih =>
    intro u hu
    rw [Lib.nDigits]
    split
    · omega
    · have := ih (u / 10) (by rw [Nat.pow_succ] at hu; omega)
      omega

theorem decDigits_len {u : Nat} (h : u ≤ 1152921504606846976) : (Lib.decDigits u).length ≤ 19 := by
  rw [Lib.decDigits_length]
  exact nDigits_le (k := 18) u (by omega)

/-- The text of a number. -/
def textN (t l : Int) : List UInt8 := if l = 1 then Lib.itoa t else Lib.itoa t ++ 47 :: Lib.itoa l

/-- What stands before and behind the first slash. -/
def cutS : List UInt8 → List UInt8 × Option (List UInt8)
  | [] => ([], none)
  | c :: l => if c = 47 then ([], some l) else (c :: (cutS l).1, (cutS l).2)

theorem cutS_none {l : List UInt8} (h : (47 : UInt8) ∉ l) : cutS l = (l, none) := by
  induction l with
  | nil => rfl
  | cons c l ih =>
    simp only [List.mem_cons, not_or] at h
    unfold cutS
    rw [if_neg (fun e => h.1 e.symm), ih h.2]
theorem cutS_some {l k : List UInt8} (h : (47 : UInt8) ∉ l) : cutS (l ++ 47 :: k) = (l, some k) := by
  induction l with
  | nil => simp [cutS]
  | cons c l ih =>
    simp only [List.mem_cons, not_or] at h
    show cutS (c :: (l ++ 47 :: k)) = _
    unfold cutS
    rw [if_neg (fun e => h.1 e.symm), ih h.2]

theorem dg_no_slash {l : List UInt8} (h : l.all isDg = true) : (47 : UInt8) ∉ l := by
  intro hm
  have := List.all_eq_true.1 h _ hm
  simp [isDg] at this

/-- The minus sign, and what follows it. -/
def bodyS (l : List UInt8) : List UInt8 := match l with | 45 :: k => k | k => k
def minusS (l : List UInt8) : Bool := match l with | 45 :: _ => true | _ => false

end Go.Proofs.YtfhmhkbjcccejaaGreatDoor

namespace Go.Proofs.YtfhmhkbjcccejaaGreatDoor

/-- The guess is not below the quotient and at most 1 above it. U is the number of n + 1 digits, D the divisor of n digits. -/
theorem guess_low {U D T B2 P g : Nat} (hT : T = U / P) (hP : 0 < P) (hB : B2 = D / P) (h : T < g * B2) : U < g * D := by
  have h1 : U < (T + 1) * P := by rw [hT, Nat.mul_comm, Nat.mul_add, Nat.mul_one]; exact Nat.lt_mul_div_succ U hP
  have h2 : (T + 1) * P ≤ g * B2 * P := Nat.mul_le_mul_right _ h
  have h3 : B2 * P ≤ D := by rw [hB]; exact Nat.div_mul_le_self D P
  have h4 : g * (B2 * P) ≤ g * D := Nat.mul_le_mul_left _ h3
  rw [← Nat.mul_assoc] at h4
  omega

theorem guess_high {U D T B2 P g : Nat} (hT : T = U / P) (hP : 0 < P) (hB : B2 = D / P) (h : g * B2 ≤ T) (hg : g < W) (hD : W * P ≤ D) : g * D < U + D := by
  have h1 : T * P ≤ U := by rw [hT]; exact Nat.div_mul_le_self U P
  have h2 : g * B2 * P ≤ T * P := Nat.mul_le_mul_right _ h
  have h3 : D < (B2 + 1) * P := by rw [hB, Nat.mul_comm, Nat.mul_add, Nat.mul_one]; exact Nat.lt_mul_div_succ D hP
  rcases Nat.eq_zero_or_pos g with h0 | h0
  · subst h0; have := Nat.mul_pos W_pos hP; omega
  · have h4 : g * D ≤ g * ((B2 + 1) * P) := Nat.mul_le_mul_left _ (Nat.le_of_lt h3)
    have e : g * ((B2 + 1) * P) = g * B2 * P + g * P := by rw [Nat.add_mul, Nat.one_mul, Nat.mul_add, Nat.mul_assoc]
    have h5 : g * P < W * P := Nat.mul_lt_mul_of_pos_right hg hP
    omega

/-- The quotient that a guess leads to. -/
theorem quotient_of {U D g : Nat} (h1 : U < (g + 1) * D) (h2 : g * D ≤ U) : U / D = g ∧ U % D = U - g * D := by
  have hD : 0 < D := by
    rcases Nat.eq_zero_or_pos D with h | h
    · subst h; simp at h1
    · exact h
  have e : U / D = g := by
    refine Nat.div_eq_of_lt_le ?_ ?_
    · exact h2
    · exact h1
  refine ⟨e, ?_⟩
  have := Nat.mod_add_div U D
  rw [e, Nat.mul_comm] at this
  omega

/-- One step of subtracting a multiple. -/
theorem msub_step {F X Y i c b s r e : Nat} (a y q : Nat) (h : F + q * Y = X + (c + b) * W ^ i) (hs : s = q * y + c) (hr : r + s % W + b = a + e * W) :
    (F + r * W ^ i) + q * (Y + y * W ^ i) = (X + a * W ^ i) + (s / W + e) * W ^ (i + 1) := by
  have e1 : s % W + W * (s / W) = s := Nat.mod_add_div s W
  have h1 : r + q * y + (c + b) = a + (s / W + e) * W := by
    rw [Nat.add_mul, Nat.mul_comm (s / W) W]; omega
  have h2 : (r + q * y + (c + b)) * W ^ i = (a + (s / W + e) * W) * W ^ i := by rw [h1]
  rw [Nat.add_mul, Nat.add_mul, Nat.add_mul a, Nat.mul_assoc (s / W + e), Nat.mul_comm W (W ^ i), ← pow_succ'] at h2
  rw [Nat.mul_add, ← Nat.mul_assoc]
  omega

/-- The digits of a number. -/
theorem V_digits (Y n : Nat) : V (fun i => Y / W ^ i % W) n = Y % W ^ n := by
  induction n with
  | zero => simp [V_zero, Nat.mod_one]
  | succ n ih => rw [V_succ, ih, pow_succ', Nat.mod_mul, Nat.mul_comm (W ^ n)]

theorem V_digit {f : Nat → Nat} {n i : Nat} (hf : ∀ j, j < n → f j < W) (hi : i < n) : V f n / W ^ i % W = f i := by
  obtain ⟨m, rfl⟩ : ∃ m, n = i + (m + 1) := ⟨n - i - 1, by omega⟩
  rw [V_split, V_head]
  have h1 : V f i < W ^ i := V_lt fun j hj => hf j (by omega)
  rw [Nat.add_mul_div_left _ _ (pow_pos' i), Nat.div_eq_of_lt h1, Nat.zero_add, Nat.add_mul_mod_self_left]
  simpa using Nat.mod_eq_of_lt (hf i (by omega))

theorem V_drop {f : Nat → Nat} {n i : Nat} (hf : ∀ j, j < n → f j < W) (hi : i ≤ n) : V (fun j => f (i + j)) (n - i) = V f n / W ^ i := by
  obtain ⟨m, rfl⟩ : ∃ m, n = i + m := ⟨n - i, by omega⟩
  rw [V_split]
  have h1 : V f i < W ^ i := V_lt fun j hj => hf j (by omega)
  rw [Nat.add_mul_div_left _ _ (pow_pos' i), Nat.div_eq_of_lt h1, Nat.zero_add, Nat.add_sub_cancel_left]

theorem W_two (n : Nat) (h : n ≤ 32) : W = 2 ^ n * 2 ^ (32 - n) := by
  rw [← Nat.pow_add, show n + (32 - n) = 32 from by omega]; rfl

/-- One step of a shift to the left: c is what the digit before left over. -/
theorem shl_step {F X i c d n : Nat} (h : F + c * W ^ i = X * 2 ^ n) :
    (F + ((d * 2 ^ n) % W + c) * W ^ i) + (d * 2 ^ n / W) * W ^ (i + 1) = (X + d * W ^ i) * 2 ^ n := by
  have e : (d * 2 ^ n) % W + W * (d * 2 ^ n / W) = d * 2 ^ n := Nat.mod_add_div _ W
  have h1 : (d * 2 ^ n) % W * W ^ i + (d * 2 ^ n / W) * W ^ (i + 1) = d * 2 ^ n * W ^ i := by
    rw [pow_succ', Nat.mul_comm (W ^ i) W, ← Nat.mul_assoc, ← Nat.add_mul, Nat.mul_comm (d * 2 ^ n / W) W, e]
  rw [Nat.add_mul X, Nat.mul_assoc d, Nat.mul_comm (W ^ i) (2 ^ n), ← Nat.mul_assoc, Nat.add_mul]
  omega

/-- A digit of a number that is shifted to the right. -/
theorem shr_digit (X n i : Nat) (hn : n < 32) : (X / W ^ i % W + W * (X / W ^ (i + 1) % W)) / 2 ^ n % W = X / 2 ^ n / W ^ i % W := by
  have e1 : X / W ^ i % W + W * (X / W ^ (i + 1) % W) = X / W ^ i % (W * W) := by
    rw [Nat.mod_mul, Nat.div_div_eq_div_mul, pow_succ']
  have e2 : X / 2 ^ n / W ^ i = X / W ^ i / 2 ^ n := by rw [Nat.div_div_eq_div_mul, Nat.div_div_eq_div_mul, Nat.mul_comm]
  rw [e1, e2]
  generalize X / W ^ i = Y
  have hw := W_two n (by omega)
  have e3 : W * W = 2 ^ n * (2 ^ (32 - n) * W) := by rw [← Nat.mul_assoc, ← hw]
  rw [e3, Nat.mod_mul_right_div_self, Nat.mod_mod_of_dvd _ ⟨2 ^ (32 - n), Nat.mul_comm _ _⟩]

end Go.Proofs.YtfhmhkbjcccejaaGreatDoor
