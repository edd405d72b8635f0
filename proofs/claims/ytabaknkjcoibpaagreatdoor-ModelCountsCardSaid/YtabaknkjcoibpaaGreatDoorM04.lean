/- A digit of a quotient, by long division. The two functions of package bits that find the length of a word, by contract. -/
import Derived.Test.YtabaknkjcoibpaaGreatDoorM03
import Derived.Shelf.Small.Bits
import Derived.Test.YtabaknkjcoibpaaGreatDoorProg

namespace Go.Proofs.YtabaknkjcoibpaaGreatDoor
open Go.RowKit

theorem addM_one (g0 N o n ca : Nat) (B : Option Addr) (m cb : Nat) (g h0 : Nat → Nat) (w : World) (hN : N ≤ 4000000) (hm : m ≤ 1000000) (hmn : m ≤ n) (hoN : o + n ≤ N) (hrow : Row w g0 N h0) (hB : Dg w B m g)
    (hne : ∀ b off, B = some ⟨b, off, none⟩ → 0 < m → b ≠ g0) (hg : ∀ i, i < m → g i < W) (hh : ∀ i, i < N → h0 i < W) :
    Calls Tryz.prog 269 #[.slice (some ⟨g0, o, none⟩) n ca, .slice B m cb, .int .u32 1] w (RetM w g0 N o m 1 g h0) :=
  addM_any g0 N o n ca B m cb g h0 1 w hN hm hmn hoN hrow hB hne hg hh (by omega)

theorem V3 (f : Nat → Nat) : V f 3 = (f 2 * W + f 1) * W + f 0 := by
  rw [V_succ, V_succ, V_succ, V_zero]
  have e2 : W ^ 2 = W * W := by rw [Nat.pow_succ, Nat.pow_one]
  rw [e2, Nat.pow_one, Nat.pow_zero, Nat.add_mul, Nat.mul_assoc]
  omega
theorem V2 (f : Nat → Nat) : V f 2 = f 1 * W + f 0 := by
  rw [V_succ, V_succ, V_zero, Nat.pow_one, Nat.pow_zero]
  omega

theorem lead3 {u : Nat → Nat} {n : Nat} (hn : 2 ≤ n) (hu : ∀ j, j < n + 1 → u j < W) : (u n * W + u (n - 1)) * W + u (n - 2) = V u (n + 1) / W ^ (n - 2) := by
  have h := V_drop (f := u) (n := n + 1) (i := n - 2) hu (by omega)
  rw [← h, show n + 1 - (n - 2) = 3 from by omega, V3]
  rw [show n - 2 + 2 = n from by omega, show n - 2 + 1 = n - 1 from by omega, Nat.add_zero]

theorem lead2 {g : Nat → Nat} {n : Nat} (hn : 2 ≤ n) (hg : ∀ j, j < n → g j < W) : g (n - 1) * W + g (n - 2) = V g n / W ^ (n - 2) := by
  have h := V_drop (f := g) (n := n) (i := n - 2) hg (by omega)
  rw [← h, show n - (n - 2) = 2 from by omega, V2]
  rw [show n - 2 + 1 = n - 1 from by omega, Nat.add_zero]

theorem top_le {u g : Nat → Nat} {n : Nat} (hn : 2 ≤ n) (hg : ∀ j, j < n → g j < W) (h : V u (n + 1) < W * V g n) : u n ≤ g (n - 1) := by
  obtain ⟨m, rfl⟩ : ∃ m, n = m + 1 := ⟨n - 1, by omega⟩
  rw [Nat.add_sub_cancel]
  rcases Nat.lt_or_ge (g m) (u (m + 1)) with c | c
  · rw [V_succ u, V_succ g] at h
    have h1 : V g m < W ^ m := V_lt fun j hj => hg j (by omega)
    have h2 : (g m + 1) * W ^ (m + 1) ≤ u (m + 1) * W ^ (m + 1) := Nat.mul_le_mul_right _ c
    rw [Nat.add_mul, Nat.one_mul] at h2
    have e : W * (g m * W ^ m) = g m * W ^ (m + 1) := by rw [pow_succ', ← Nat.mul_assoc, Nat.mul_comm W (g m), Nat.mul_assoc, Nat.mul_comm W]
    have e2 : W * V g m < W ^ (m + 1) := by rw [pow_succ', Nat.mul_comm (W ^ m)]; exact Nat.mul_lt_mul_of_pos_left h1 W_pos
    rw [Nat.mul_add] at h
    omega
  · exact c

/-- What the guess is worth. -/
theorem guess_q {u g : Nat → Nat} {n x : Nat} (hn : 2 ≤ n) (hu : ∀ j, j < n + 1 → u j < W) (hg : ∀ j, j < n → g j < W) (hgn : 0 < g (n - 1)) (h : V u (n + 1) < W * V g n)
    (hx : IsGuess ((u n * W + u (n - 1)) * W + u (n - 2)) (g (n - 1) * W + g (n - 2)) x) : V u (n + 1) < (x + 1) * V g n ∧ x * V g n < V u (n + 1) + V g n := by
  obtain ⟨h1, h2, h3⟩ := hx
  rw [lead3 hn hu, lead2 hn hg] at h2
  rw [lead3 hn hu, lead2 hn hg] at h3
  have hP := pow_pos' (n - 2)
  have hD : W * W ^ (n - 2) ≤ V g n := by
    have := V_low (f := g) (n := n) (by omega) (by omega)
    rw [show n - 1 = (n - 2) + 1 from by omega, pow_succ', Nat.mul_comm] at this
    exact this
  refine ⟨?_, guess_high rfl hP rfl h2 h1 hD⟩
  rcases Nat.lt_or_ge (V u (n + 1)) ((x + 1) * V g n) with c | c
  · exact c
  · exfalso
    have hx1 : x + 1 < W := by
      rcases Nat.lt_or_ge (x + 1) W with g1 | g1
      · exact g1
      · have := Nat.mul_le_mul_right (V g n) g1
        omega
    have h4 : (x + 1) * (V g n / W ^ (n - 2)) ≤ V u (n + 1) / W ^ (n - 2) := by
      rw [Nat.le_div_iff_mul_le hP, Nat.mul_assoc]
      exact Nat.le_trans (Nat.mul_le_mul_left _ (Nat.div_mul_le_self _ _)) c
    have := h3 (x + 1) hx1 h4
    omega

theorem grown_drn {w w' : World} (h : Drn w w') (row : Option Nat) : w.grownBy w' row := by
  obtain ⟨q, rfl⟩ := h
  exact ⟨rfl, rfl, rfl, Nat.le_refl _, fun _ _ _ => rfl⟩
theorem grown_trans {a b c : World} {row : Option Nat} (h : a.grownBy b row) (k : b.grownBy c row) : a.grownBy c row :=
  ⟨k.os.trans h.os, k.tape.trans h.tape, k.output.trans h.output, Nat.le_trans h.size k.size, fun i hi hne => (k.block i (Nat.lt_of_lt_of_le hi h.size) hne).trans (h.block i hi hne)⟩

/-- What quotientDigit leaves. -/
def RetQ (w : World) (g0 N o n : Nat) (g h0 : Nat → Nat) (e : Ending) (w' : World) : Prop :=
  ∃ (q : Nat) (h : Nat → Nat), e = .returned (.int .u32 (q : Int)) ∧ q = V (sh h0 o) (n + 1) / V g n ∧ q < W ∧ Row w' g0 N h ∧ (∀ j, j < o ∨ o + (n + 1) ≤ j → h j = h0 j) ∧ (∀ j, j < n + 1 → sh h o j < W) ∧
    V (sh h o) (n + 1) = V (sh h0 o) (n + 1) % V g n ∧ w.grownBy w' (some g0)

/-- The sum that goes back: the top digit is 0 again. -/
theorem add_back {F t F1 c U D P x : Nat} (h1 : F + t * P + x * D = U + W * P) (h2 : F1 + c * P = F + D) (hF : F1 < P) (hx1 : (x - 1) * D ≤ U) (hx2 : U < x * D) (hD : D < P) : t + c = W ∧ F1 = U - (x - 1) * D := by
  obtain ⟨y, rfl⟩ : ∃ y, x = y + 1 := ⟨x - 1, by
    rcases Nat.eq_zero_or_pos x with h | h
    · subst h; omega
    · omega⟩
  rw [Nat.add_mul, Nat.one_mul] at h1 hx2
  simp only [Nat.add_sub_cancel] at hx1 ⊢
  have h3 : F1 + (t + c) * P = (U - y * D) + W * P := by rw [Nat.add_mul]; omega
  have e : t + c = W := by
    rcases Nat.lt_trichotomy (t + c) W with g | g | g
    · have := Nat.mul_le_mul_right P (show t + c + 1 ≤ W from g)
      rw [Nat.add_mul, Nat.one_mul] at this
      omega
    · exact g
    · have := Nat.mul_le_mul_right P (show W + 1 ≤ t + c from g)
      rw [Nat.add_mul, Nat.one_mul] at this
      omega
  rw [e] at h3
  exact ⟨e, by omega⟩

theorem q_end {w w2 w3 w4 : World} {g0 N o n x c : Nat} {g h0 h h1 : Nat → Nat} (hx : 0 < x) (hxW : x < 4294967296) (hg : ∀ i, i < n → g i < W)
    (hq : V (sh h0 o) (n + 1) / V g n = x - 1 ∧ V (sh h0 o) (n + 1) % V g n = V (sh h0 o) (n + 1) - (x - 1) * V g n) (hno : ¬ x * V g n ≤ V (sh h0 o) (n + 1)) (hxD : x * V g n < V (sh h0 o) (n + 1) + V g n)
    (r2 : ∀ j, j < o ∨ o + (n + 1) ≤ j → h j = h0 j) (r4 : V (sh h o) (n + 1) + x * V g n = V (sh h0 o) (n + 1) + W ^ (n + 1))
    (hrow : Row w3 g0 N h1) (s1 : ∀ j, j < o ∨ o + n ≤ j → h1 j = h j) (s2 : ∀ j, j < n → sh h1 o j < W) (s3 : V (sh h1 o) n + c * W ^ n = V (sh h o) n + 1 * V g n)
    (hgr : w.grownBy w2 (some g0)) (hgr2 : w2.grownBy w3 (some g0)) {s : Int} {v : Value} (hv : v = .int .u32 ((x : Int) - 1)) (hs : s = ((h (o + n) : Nat) : Int) + (c : Int))
    (hw : Drn (w3.setCell ⟨g0, o + n, none⟩ (.int .u32 (s % 4294967296))) w4) : RetQ w g0 N o n g h0 (.returned v) w4 := by
  subst hv hs
  have hD : V g n < W ^ n := V_lt hg
  have e1 : V (sh h o) (n + 1) = V (sh h o) n + h (o + n) * W ^ n := by rw [V_succ]; rfl
  have hle : (x - 1) * V g n ≤ V (sh h0 o) (n + 1) := by
    have e : x * V g n = (x - 1) * V g n + V g n := by
      obtain ⟨y, rfl⟩ : ∃ y, x = y + 1 := ⟨x - 1, by omega⟩
      rw [Nat.add_mul, Nat.one_mul, Nat.add_sub_cancel]
    omega
  rw [Nat.one_mul] at s3
  have hab := add_back (F := V (sh h o) n) (t := h (o + n)) (F1 := V (sh h1 o) n) (c := c) (U := V (sh h0 o) (n + 1)) (D := V g n) (P := W ^ n) (x := x) (by rw [← e1, r4, pow_succ', Nat.mul_comm (W ^ n)]) s3 (V_lt s2) hle (by omega) hD
  have e2 : ((h (o + n) : Nat) : Int) + (c : Int) = 4294967296 := by have := hab.1; rw [W_eq] at this; omega
  have e3 : (((h (o + n) : Nat) : Int) + (c : Int)) % 4294967296 = ((0 : Nat) : Int) := by rw [e2]; rfl
  rw [e3] at hw
  have hup : V (sh (up h1 (o + n) 0) o) n = V (sh h1 o) n := V_congr fun j hj => by unfold sh; exact up_far h1 _ (by omega)
  have hat : sh (up h1 (o + n) 0) o n = 0 := by unfold sh; exact up_at _ _ _
  refine ⟨x - 1, up h1 (o + n) 0, by rw [show ((x - 1 : Nat) : Int) = (x : Int) - 1 from by omega], hq.1.symm, by rw [W_eq]; omega, hw.row (hrow.set _ _), ?_, ?_, ?_, grown_trans hgr (grown_trans hgr2 (grown_trans (grown_set (World.grownBy.refl _ _) _ _) (grown_drn hw _)))⟩
  · intro j hj
    rw [up_far h1 _ (by omega), s1 j (by omega), r2 j hj]
  · intro j hj
    by_cases e : j = n
    · rw [e, hat]; exact W_pos
    · have : sh (up h1 (o + n) 0) o j = sh h1 o j := by unfold sh; exact up_far h1 _ (by omega)
      rw [this]; exact s2 j (by omega)
  · rw [V_succ, hat, hup, Nat.zero_mul, Nat.add_zero, hab.2, hq.2]

set_option maxRecDepth 100000 in
set_option maxHeartbeats 2000000 in
theorem qdig_any (g0 N o ca : Nat) (b off n cb : Nat) (g h0 : Nat → Nat) (w : World) (hN : N ≤ 4000000) (hn : n ≤ 1000000) (hn2 : 2 ≤ n) (hoN : o + (n + 1) ≤ N) (hca : n + 1 ≤ ca) (hrow : Row w g0 N h0)
    (hne : b ≠ g0) (hb : b < w.heap.size) (hcs : ∀ i, i < n → w.cell? ⟨b, off + i, none⟩ = some (.int .u32 ((g i : Nat) : Int))) (hg : ∀ i, i < n → g i < W) (hh : ∀ i, i < N → h0 i < W)
    (htop : 2147483648 ≤ g (n - 1)) (hU : V (sh h0 o) (n + 1) < W * V g n) :
    Calls Tryz.prog 288 #[.slice (some ⟨g0, o, none⟩) (n + 1) ca, .slice (some ⟨b, off, none⟩) n cb] w (RetQ w g0 N o n g h0) := by
  have hsh : ∀ j, j < n + 1 → sh h0 o j < W := fun j hj => hh _ (by omega)
  have HC := Lib.hid (guess_any g0 o b off n ca cb (h0 (o + n)) (h0 (o + (n - 1))) (h0 (o + (n - 2))) (g (n - 1)) (g (n - 2)) w hn hn2 (hrow.cell (by omega)) (hrow.cell (by omega)) (hrow.cell (by omega)) (hcs _ (by omega)) (hcs _ (by omega))
    (hh _ (by omega)) (hh _ (by omega)) (hh _ (by omega)) (hg _ (by omega)) (hg _ (by omega)) htop (top_le hn2 hg hU))
  have HGQ : Hid (∀ x, IsGuess ((h0 (o + n) * W + h0 (o + (n - 1))) * W + h0 (o + (n - 2))) (g (n - 1) * W + g (n - 2)) x → V (sh h0 o) (n + 1) < (x + 1) * V g n ∧ x * V g n < V (sh h0 o) (n + 1) + V g n) :=
    fun x hx => guess_q (u := sh h0 o) hn2 hsh hg (by omega) hU hx
  have HG := Lib.hid hg
  have HH0 := Lib.hid hh
  have HCS := Lib.hid hcs
  have HNE := Lib.hid hne
  clear hg hh hcs hne htop hsh hU
  go_enter Tryz.func288, Tryz.ntmps288
  go_wp2_with fail
  refine HC.out.mono ?_
  rintro e w1 ⟨x, rfl, hx, hdr⟩
  obtain ⟨q1, q2⟩ := HGQ.out x hx
  have hxW : x < 4294967296 := hx.1
  clear HC HGQ hx
  have hrow1 : Row w1 g0 N h0 := hdr.row hrow
  have hgr : Hid (w.grownBy w1 (some g0)) := grown_drn hdr _
  have hcs1 : Hid (∀ i, i < n → w1.cell? ⟨b, off + i, none⟩ = some (.int .u32 ((g i : Nat) : Int))) := fun i hi => (hdr.cell _).trans (HCS.out i hi)
  have hb1 : b < w1.heap.size := by rw [hdr.size]; exact hb
  rcases Nat.eq_zero_or_pos x with h0x | h0x
  · subst h0x
    have HQ1 := Lib.hid q1
    clear q1 q2
    go_wp2_with fail
    go_ret
    rw [Nat.zero_add, Nat.one_mul] at HQ1
    have hd := quotient_of (g := 0) (by rw [Nat.zero_add, Nat.one_mul]; exact HQ1.out) (by omega)
    exact ⟨0, h0, rfl, hd.1.symm, W_pos, hrow1, fun _ _ => rfl, fun j hj => HH0.out _ (by omega), by rw [hd.2]; omega, hgr.out⟩
  · have hxb : ((x : Int) == 0) = false := by rw [beq_eq_false_iff_ne]; omega
    by_cases c : x * V g n ≤ V (sh h0 o) (n + 1)
    · have HQ := Lib.hid (quotient_of q1 c)
      have HC := Lib.hid (subM_no g0 N o ca b off n cb g h0 x w1 hN hn hoN hrow1 HNE.out hb1 hcs1.out HG.out HH0.out hxW c)
      have C := Lib.hid c
      clear q1 q2 c
      go_wp2_with fail
      refine HC.out.mono ?_
      rintro e w2 ⟨h, rfl, r1, r2, r3, r4, r5⟩
      have R2 := Lib.hid r2
      have R3 := Lib.hid r3
      have R4 := Lib.hid r4
      clear r2 r3 r4
      go_wp2_with fail
      go_ret
      exact ⟨x, h, rfl, HQ.out.1.symm, hxW, r1, R2.out, R3.out, by rw [HQ.out.2]; have := R4.out; omega, grown_trans hgr.out r5⟩
    · have HQ := Lib.hid (quotient_of (U := V (sh h0 o) (n + 1)) (D := V g n) (g := x - 1) (by rw [show x - 1 + 1 = x from by omega]; omega) (by
        have e : x * V g n = (x - 1) * V g n + V g n := by
          obtain ⟨y, rfl⟩ : ∃ y, x = y + 1 := ⟨x - 1, by omega⟩
          rw [Nat.add_mul, Nat.one_mul, Nat.add_sub_cancel]
        omega))
      have HC := Lib.hid (subM_yes g0 N o ca b off n cb g h0 x w1 hN hn hoN hrow1 HNE.out hb1 hcs1.out HG.out HH0.out hxW (by omega))
      have C := Lib.hid c
      have Q2 := Lib.hid q2
      clear q1 q2 c
      go_wp2_with fail
      refine HC.out.mono ?_
      rintro e w2 ⟨h, rfl, r1, r2, r3, r4, r5⟩
      have hhN : ∀ i, i < N → h i < W := by
        intro i hi
        by_cases g1 : i < o ∨ o + (n + 1) ≤ i
        · rw [r2 i g1]; exact HH0.out i hi
        · have := r3 (i - o) (by omega)
          unfold sh at this
          rwa [show o + (i - o) = i from by omega] at this
      have hgt : w.grownBy w2 (some g0) := grown_trans hgr.out r5
      have hB2 : Dg w2 (some ⟨b, off, none⟩) n g := fun _ => ⟨b, off, rfl, Nat.lt_of_lt_of_le hb hgt.size, fun i hi => (World.cell?_of_block (w := w) (a := ⟨b, off + i, none⟩) (hgt.block b hb (fun e => HNE.out (by injection e)))).trans (HCS.out i hi)⟩
      have hcell := r1.cell (show o + n < N by omega)
      have hfr := r1.frozen (o + n)
      have HM := Lib.hid (fun (w3 : World) (hw3 : Drn w2 w3) => addM_one g0 N o n ca (some ⟨b, off, none⟩) n cb g h w3 hN hn (Nat.le_refl _) (by omega) (hw3.row r1) (hw3.dg hB2) (fun b' off' e _ => by injection e with e; injection e with e1 e2; rw [← e1]; exact HNE.out) HG.out hhN)
      have HT := Lib.hid (show h (o + n) < 4294967296 from hhN (o + n) (by omega))
      have R2 := Lib.hid r2
      have R3 := Lib.hid r3
      have R4 := Lib.hid r4
      clear r2 r3 r4 hhN
      go_wp2_with fail
      go_region_with ((with_reducible refine (HM.out _ (Drn.more1 (Drn.refl w2))).mono ?_); (rintro e w3 ⟨c, h1, rfl, hc, hrow3, s1, s2, s3, s4⟩); (have hcell3 := (hrow3.cell (show o + n < N by omega)).trans (congrArg (fun z : Nat => some (Value.int IntKind.u32 (z : Int))) (s1 (o + n) (Or.inr (Nat.le_refl _))))); (have hfr3 := hrow3.frozen (o + n)); (have S1 := Lib.hid s1); (have S2 := Lib.hid s2); (have S3 := Lib.hid s3); clear s1 s2 s3)
      all_goals go_wp2_with fail
      all_goals go_ret
      all_goals exact q_end h0x hxW HG.out HQ.out C.out Q2.out R2.out R4.out hrow3 S1.out S2.out S3.out hgt (grown_trans (grown_drn (Drn.refl w2).more1 _) s4) rfl rfl (by first | exact ⟨0, rfl⟩ | exact ⟨1, rfl⟩ | exact ⟨2, rfl⟩)

end Go.Proofs.YtabaknkjcoibpaaGreatDoor

namespace Go.Proofs
open Go.Shelf
def Tryz.lays128_ren : Go.Shelf.Ren := ⟨fun | 128 => 169 | n => n, fun | 51 => 193 | 3 => 3 | 4 => 4 | 46 => 136 | 5 => 5 | 9 => 9 | n => n, fun | n => n⟩
theorem Tryz.lays128 : Go.Proofs.Lays.n128 Tryz.prog Tryz.lays128_ren := {
  mixed := by kernel_rfl
  f128 := Tryz.func169.trans (congrArg some (by kernel_rfl))
  t3 := Tryz.underlying3
  a3 := Tryz.isAgg3
  z3 := Tryz.sizeOf3
  v3 := Tryz.zeroValue3
  t4 := Tryz.underlying4
  a4 := Tryz.isAgg4
  z4 := Tryz.sizeOf4
  v4 := Tryz.zeroValue4
  t5 := Tryz.underlying5
  a5 := Tryz.isAgg5
  z5 := Tryz.sizeOf5
  v5 := Tryz.zeroValue5
  t9 := Tryz.underlying9
  a9 := Tryz.isAgg9
  z9 := Tryz.sizeOf9
  v9 := Tryz.zeroValue9
  t46 := Tryz.underlying136
  a46 := Tryz.isAgg136
  z46 := Tryz.sizeOf136
  v46 := Tryz.zeroValue136
  t51 := Tryz.underlying193
  a51 := Tryz.isAgg193
  z51 := Tryz.sizeOf193
  v51 := Tryz.zeroValue193 }
theorem Tryz.bits_Len32 (x : Int) (w : World) (h0 : 0 ≤ x) (h1 : x ≤ 4294967295) :
    Calls Tryz.prog 169 #[.int .u32 x] w fun e w' => e = .returned (.int .i64 (Lib.bitLen x.toNat)) ∧ w' = w := Any.bits_Len32 Tryz.lays128 x w h0 h1
def Tryz.lays133_ren : Go.Shelf.Ren := ⟨fun | 133 => 286 | 128 => 169 | n => n, fun | 51 => 193 | 3 => 3 | 4 => 4 | 46 => 136 | 5 => 5 | 9 => 9 | n => n, fun | n => n⟩
theorem Tryz.lays133 : Go.Proofs.Lays.n133 Tryz.prog Tryz.lays133_ren := {
  mixed := by kernel_rfl
  f128 := Tryz.func169.trans (congrArg some (by kernel_rfl))
  f133 := Tryz.func286.trans (congrArg some (by kernel_rfl))
  t3 := Tryz.underlying3
  a3 := Tryz.isAgg3
  z3 := Tryz.sizeOf3
  v3 := Tryz.zeroValue3
  t4 := Tryz.underlying4
  a4 := Tryz.isAgg4
  z4 := Tryz.sizeOf4
  v4 := Tryz.zeroValue4
  t5 := Tryz.underlying5
  a5 := Tryz.isAgg5
  z5 := Tryz.sizeOf5
  v5 := Tryz.zeroValue5
  t9 := Tryz.underlying9
  a9 := Tryz.isAgg9
  z9 := Tryz.sizeOf9
  v9 := Tryz.zeroValue9
  t46 := Tryz.underlying136
  a46 := Tryz.isAgg136
  z46 := Tryz.sizeOf136
  v46 := Tryz.zeroValue136
  t51 := Tryz.underlying193
  a51 := Tryz.isAgg193
  z51 := Tryz.sizeOf193
  v51 := Tryz.zeroValue193 }
theorem Tryz.bits_LeadingZeros32 (x : Int) (w : World) (h0 : 0 ≤ x) (h1 : x ≤ 4294967295) :
    Calls Tryz.prog 286 #[.int .u32 x] w fun e w' => e = .returned (.int .i64 (32 - (Lib.bitLen x.toNat : Int))) ∧ w' = w := Any.bits_LeadingZeros32 Tryz.lays133 x w h0 h1
end Go.Proofs
