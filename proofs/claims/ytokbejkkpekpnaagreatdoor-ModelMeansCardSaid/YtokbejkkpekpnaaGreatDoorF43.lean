/- The closure of the program's Goal: what it returns for state ix. -/
import Derived.Test.YtokbejkkpekpnaaGreatDoorF42
import Derived.Test.YtokbejkkpekpnaaGreatDoorF40

set_option maxRecDepth 100000
set_option maxHeartbeats 40000000
namespace Go.Proofs.YtokbejkkpekpnaaGreatDoor
open Go.RowKit
theorem bsearch_cv (D : Option Addr) (m d : Nat) (f : Nat → Int) (x : Int) (w : World) (hm : m ≤ 1000000) (hL : Lin w D m f) (hs : ∀ i j, i ≤ j → j < m → f i ≤ f j) :
    Calls Tryz.prog 66 #[.slice D m d, .int .i64 x] w fun e w' => (∃ p : Int, e = .returned (.tuple #[.int .i64 p, .bool (memB f m x)])) ∧ Below w.heap.size w w' :=
  (bsearch_any D m d f x w hm hL hs).mono fun e w' ⟨h, q, hq⟩ => ⟨h, by rw [hq]; exact ⟨rfl, rfl, rfl, Nat.le_refl _, fun _ _ => rfl⟩⟩
theorem gol1_any (gg gm : Nat) (D A : Option Addr) (k q n c : Nat) (st : Nat → StV) (f : Nat → Int) (ix : Nat) (w : World) (HGB : Hid (MBx w gg D k q)) (HM : Hid (MBx w gm A n c)) (hA : Lst w A n st) (hD : Lin w D k f) (hk : k ≤ 60) (hs : ∀ i j, i ≤ j → j < k → f i ≤ f j) (hi : ix < n) :
    Calls Tryz.prog 65 #[.int .i64 (ix : Int), .pointer (some ⟨gg, 0, none⟩), .pointer (some ⟨gm, 0, none⟩)] w (RetT (fun _ => True) (golT st f k ix) w) := by
  have hT1 : memB f k (ix : Int) = true → golT st f k ix = ⟨(st ix).ow, (st ix).mrk, none, 1, 1, fun _ => loopC ix⟩ := fun h => if_pos h
  have hT2 : memB f k (ix : Int) = false → golT st f k ix = st ix := fun h => if_neg (by rw [h]; exact Bool.false_ne_true)
  generalize golT st f k ix = goalT at *
  obtain ⟨b, off, rfl, hS3, hL⟩ := hA.at hi
  clear hA
  generalize st ix = S at *
  obtain ⟨ow, mrk, E, m, d1, ch⟩ := S
  dsimp only at hS3 hL hT1 hT2
  have HLL := Lib.hid hL
  have HT1 := Lib.hid hT1
  have HT2 := Lib.hid hT2
  have HS3 := Lib.hid hS3
  have HSO := Lib.hid hs
  have HD := Lib.hid hD
  have HK := Lib.hid hk
  have hlt1 : (ix : Int) < (n : Int) := by omega
  clear hL hT1 hT2 hS3 hs hD hk
  go_enter Tryz.func65, Tryz.ntmps65
  go_upto_region 1 with fail
  generalize hX : w.alloc _ = X
  have hbx : Below w.heap.size w X := by rw [← hX]; exact below_alloc _ _
  have hrx : Bw X w.heap.size 53 (.int .i64 0) (.int .i64 0) (.slice none 0 0) := by rw [← hX]; exact Bw.new _ _ _ _ _
  have HBX0 := Lib.hid hbx
  have HRX := Lib.hid hrx
  obtain ⟨k0, -⟩ := HGB.out.keep hbx
  clear hX hbx hrx
  go_wp2_with fail
  clear k0
  (with_reducible refine (bsearch_cv D k q f (ix : Int) X (Nat.le_trans HK.out (by omega)) (HD.out.keep HBX0.out) HSO.out).mono ?_)
  rintro e Z ⟨⟨p, rfl⟩, hbz⟩
  have HZ0 : Hid (Below w.heap.size w Z) := Lib.hid (HBX0.out.trans (hbz.mono HBX0.out.size))
  have HR : Hid (Bw Z w.heap.size 53 (.int .i64 0) (.int .i64 0) (.slice none 0 0)) := Lib.hid (HRX.out.keep hbz)
  clear hbz HBX0 HRX HGB HSO HD
  cases hm : memB f k (ix : Int) with
  | false =>
    have HTG := Lib.hid (HT2.out hm)
    have HL1 : Hid (StP (fun b => b ≠ w.heap.size) Z ⟨ow, mrk, E, m, d1, ch⟩) := Lib.hid ((StP.of (P := fun b => b ≠ w.heap.size) (s := ⟨ow, mrk, E, m, d1, ch⟩) HLL.out (fun b hb => by omega)).stay HZ0.out.size fun b hlt _ => HZ0.out.block b hlt)
    have HE := Lib.hid (fixEnd (P := fun b => b ≠ w.heap.size) HZ0.out (Nat.le_refl _) (Below.refl _ Z) HR.out (fun _ h => h) (StL.refl _) HL1.out)
    dsimp only at HE
    clear HT1 HT2 hm HLL HL1
    obtain ⟨-, s0, s1, s2⟩ := HS3.out.keep HZ0.out
    obtain ⟨m0, -⟩ := HM.out.keep HZ0.out
    obtain ⟨r0, r1, r2⟩ := HR.out.out
    obtain ⟨f0, f1, f2⟩ := HR.out.frz
    clear HR HS3 HM
    generalize w.heap.size = g4 at *
    go_wp2_with fail
    generalize hV : World.setCell _ _ _ = V
    rw [hV] at HE
    obtain ⟨s, hb, hs, hc, hB⟩ := HE.out
    obtain ⟨c0, c1, c2⟩ := hb.out
    have HS := Lib.hid hs
    have HC := Lib.hid hc
    have HB := Lib.hid hB
    clear hV r0 r1 r2 f0 f1 f2 s0 s1 s2 m0 hs hc hB hb HE
    exact bodyPost_ret (v := .agg #[.int .i64 s.ow, .int .i64 s.mrk, .slice s.A s.n s.c]) (by simp [results, Tryz.results65, go_sem, c0, c1, c2]) rfl ⟨_, rfl, ⟨s, rfl, (by rw [HTG.out]; exact HS.out), HC.out.imp fun _ _ _ => trivial⟩, HB.out⟩
  | true =>
    have HTG := Lib.hid (HT1.out hm)
    clear HT1 HT2 hm HLL
    go_wp2_with fail
    (with_reducible refine (one_any Z).mono ?_)
    rintro e V ⟨rfl, hbv⟩
    have HV0 : Hid (Below w.heap.size w V) := Lib.hid (HZ0.out.trans (hbv.mono HZ0.out.size))
    have HRV : Hid (Bw V w.heap.size 53 (.int .i64 0) (.int .i64 0) (.slice none 0 0)) := Lib.hid (HR.out.keep hbv)
    clear hbv HZ0 HR
    go_upto_region 5 with fail
    generalize hU : World.alloc _ _ = U
    have hbu : Below V.heap.size V U := by rw [← hU]; exact below_alloc _ _
    have HU0 : Hid (Below w.heap.size w U) := Lib.hid (HV0.out.trans (hbu.mono HV0.out.size))
    have HRU : Hid (Bw U w.heap.size 53 (.int .i64 0) (.int .i64 0) (.slice none 0 0)) := Lib.hid (HRV.out.keep hbu)
    have HEL : Hid (Bw U V.heap.size 74 (.int .i64 (ix : Int)) (.int .i64 1) (.int .i64 1)) := by rw [← hU]; exact Lib.hid (Bw.new _ _ _ _ _)
    have HNE : Hid (V.heap.size ≠ w.heap.size) := Lib.hid (by have := HRV.out.lt; omega)
    clear hU hbu HV0 HRV
    generalize V.heap.size = gv at *
    have HBRR : Hid (BrP (fun b => b ≠ w.heap.size) U ⟨0, 1, some ⟨gv, 0, none⟩, 1, 1, fun _ => (ix : Int), fun _ => 1, fun _ => 1⟩) := Lib.hid (HEL.out.rows1 (P := fun b => b ≠ w.heap.size) HNE.out)
    have HPP : Hid (∀ b, U.heap.size ≤ b → b ≠ w.heap.size) := Lib.hid (fun b hb => by have := HRU.out.lt; omega)
    obtain ⟨-, s0, s1, s2⟩ := HS3.out.keep HU0.out
    obtain ⟨m0, -⟩ := HM.out.keep HU0.out
    go_wp2_with fail
    clear s0 s1 s2 m0
    (with_reducible refine (only_any (fun b => b ≠ w.heap.size) ow mrk 0 1 E (some ⟨gv, 0, none⟩) m d1 1 1 (fun _ => (ix : Int)) (fun _ => 1) (fun _ => 1) U HPP.out HBRR.out).mono ?_)
    rintro e T ⟨u, rfl, ⟨s, rfl, hs, hc⟩, hbt⟩
    have HE := Lib.hid (fixEnd (P := fun b => b ≠ w.heap.size) HU0.out (Nat.le_refl _) hbt (HRU.out.keep hbt) (fun _ h => h) hs hc)
    have hrt := HRU.out.keep hbt
    obtain ⟨r0, r1, r2⟩ := hrt.out
    obtain ⟨f0, f1, f2⟩ := hrt.frz
    clear hrt hs hc hbt HU0 HRU HEL HNE HS3 HM HBRR HPP
    generalize w.heap.size = g4 at *
    go_wp2_with fail
    generalize hV : World.setCell _ _ _ = V2
    rw [hV] at HE
    obtain ⟨s, hb, hs, hc, hB⟩ := HE.out
    obtain ⟨c0, c1, c2⟩ := hb.out
    have HS := Lib.hid hs
    have HC := Lib.hid hc
    have HB := Lib.hid hB
    clear hV r0 r1 r2 f0 f1 f2 hs hc hB hb HE
    exact bodyPost_ret (v := .agg #[.int .i64 s.ow, .int .i64 s.mrk, .slice s.A s.n s.c]) (by simp [results, Tryz.results65, go_sem, c0, c1, c2]) rfl ⟨_, rfl, ⟨s, rfl, (by rw [HTG.out]; exact HS.out.trans ⟨rfl, rfl, rfl, fun _ _ => ChLk.refl _⟩), HC.out.imp fun _ _ _ => trivial⟩, HB.out⟩
theorem ChgI.slot {w : World} {C n k : Nat} {src : Nat → ChV} (h : ChgI w C n k src) {j : Nat} (hj : j < n) : (∃ a b c, w.cell? ⟨C, j * 3, none⟩ = some a ∧ w.cell? ⟨C, j * 3 + 1, none⟩ = some b ∧ w.cell? ⟨C, j * 3 + 2, none⟩ = some c) ∧ ∀ o, w.frozen? ⟨C, o, none⟩ = false := by
  obtain ⟨ch, hr, -⟩ := h
  obtain ⟨b, off, e, -, -, hc⟩ := R3.rows (P := fun _ => True) hr trivial (by omega)
  obtain ⟨rfl, rfl⟩ : C = b ∧ 0 = off := by
    have := Option.some.inj e
    injection this with h1 h2 h3
    exact ⟨h1, h2⟩
  have := hc j hj
  rw [Nat.zero_add] at this
  exact ⟨⟨_, _, _, this⟩, R3.frozen hr⟩
theorem ChgO.slot {w : World} {C n k : Nat} {src : Nat → StV} (h : ChgO w C n k src) {j : Nat} (hj : j < n) : (∃ a b c, w.cell? ⟨C, j * 3, none⟩ = some a ∧ w.cell? ⟨C, j * 3 + 1, none⟩ = some b ∧ w.cell? ⟨C, j * 3 + 2, none⟩ = some c) ∧ ∀ o, w.frozen? ⟨C, o, none⟩ = false := by
  obtain ⟨ch, hr, -⟩ := h
  obtain ⟨b, off, e, -, -, hc⟩ := R3.rows (P := fun _ => True) hr trivial (by omega)
  obtain ⟨rfl, rfl⟩ : C = b ∧ 0 = off := by
    have := Option.some.inj e
    injection this with h1 h2 h3
    exact ⟨h1, h2⟩
  have := hc j hj
  rw [Nat.zero_add] at this
  exact ⟨⟨_, _, _, this⟩, R3.frozen hr⟩
theorem ChgO.stay {w w' : World} {S n k : Nat} {tg : Nat → StV} (h : ChgO w S n k tg) (hs : w.heap.size ≤ w'.heap.size) (hb : ∀ b, S ≤ b → w'.heap[b]? = w.heap[b]?) : ChgO w' S n k tg := by
  obtain ⟨st, hr, hc⟩ := h
  exact ⟨st, R3.block hr (hb S (Nat.le_refl _)), fun j hj => ⟨(hc j hj).1, (hc j hj).2.stay hs fun b _ hp => hb b (Nat.le_of_lt hp)⟩⟩
theorem ChgO.doneP {w : World} {S n : Nat} {tg : Nat → StV} (h : ChgO w S n n tg) {lo : Nat} (hlo : lo ≤ S) : ∃ st, LstP (fun b => lo ≤ b) w (some ⟨S, 0, none⟩) n st ∧ ∀ j, j < n → StL (st j) (tg j) := by
  obtain ⟨st, hr, hc⟩ := h
  exact ⟨st, ⟨R3.rows (P := fun b => lo ≤ b) hr hlo, fun j hj => (hc j hj).2.imp fun b _ hp => Nat.le_trans hlo (Nat.le_of_lt hp)⟩, fun j hj => (hc j hj).1⟩
def EndI (Z : World) (C n k : Nat) (src : Nat → ChV) (w' : World) : Prop := ChgI w' C n k src ∧ Below Z.heap.size Z w'
theorem chgEnd {Z wr V wx : World} {m j : Nat} {src : Nat → ChV} {h : ChV} {A' : Option Addr} {c' : Nat} (hI : ChgI wr Z.heap.size m j src) (hZ : Below Z.heap.size Z wr) (hV : Below wr.heap.size wr V) (hx : Below V.heap.size V wx) (hh : src j = h) (hb : BrP (fun b => V.heap.size ≤ b) wx ⟨h.t, h.l, A', h.n, c', h.tw, h.ct, h.cl⟩) :
    EndI Z Z.heap.size m (j + 1) src (((wx.setCell ⟨Z.heap.size, j * 3, none⟩ (.int .i64 h.t)).setCell ⟨Z.heap.size, j * 3 + 1, none⟩ (.int .i64 h.l)).setCell ⟨Z.heap.size, j * 3 + 2, none⟩ (.slice A' h.n c')) := by
  have hw := hV.trans (hx.mono hV.size)
  have hlt := hI.lt
  have hvs := hV.size
  refine ⟨(hI.keep hw).step ⟨h.t, h.l, A', h.n, c', h.tw, h.ct, h.cl⟩ (by rw [hh]; exact ⟨rfl, rfl, rfl, fun _ _ => ⟨rfl, rfl, rfl⟩⟩) (hb.imp fun b _ hp => ?_), below_put (hZ.trans (hw.mono hZ.size)) (Nat.le_refl _) _ _ _ _ _ _⟩
  have hp' : V.heap.size ≤ b := hp
  omega
theorem chgRound {w1 Z wr : World} {S n k m gs g5 : Nat} {tg : Nat → StV} {src : Nat → ChV} {ow mrk : Int} {a b c v5 : Value} {T : Nat} (hO : ChgO w1 S n k tg) (h5 : B1 w1 g5 T v5) (h5S : g5 ≠ S) (hgs : w1.heap.size = gs) (hZ : Below w1.heap.size w1 Z) (hZs : gs < Z.heap.size) (hw : Below Z.heap.size Z wr) (_hb : Bw Z gs 53 a b c) (hI : ChgI wr Z.heap.size m m src) (ht : (tg k).ow = ow) (hmk : (tg k).mrk = mrk) (hn : (tg k).n = m) (hc : ∀ j, j < m → ChLk (src j) ((tg k).ch j)) :
    ChgO ((((wr.setCell ⟨gs, 2, none⟩ (.slice (some ⟨Z.heap.size, 0, none⟩) m m)).setCell ⟨S, k * 3, none⟩ (.int .i64 ow)).setCell ⟨S, k * 3 + 1, none⟩ (.int .i64 mrk)).setCell ⟨S, k * 3 + 2, none⟩ (.slice (some ⟨Z.heap.size, 0, none⟩) m m)) S n (k + 1) tg ∧
    B1 ((((wr.setCell ⟨gs, 2, none⟩ (.slice (some ⟨Z.heap.size, 0, none⟩) m m)).setCell ⟨S, k * 3, none⟩ (.int .i64 ow)).setCell ⟨S, k * 3 + 1, none⟩ (.int .i64 mrk)).setCell ⟨S, k * 3 + 2, none⟩ (.slice (some ⟨Z.heap.size, 0, none⟩) m m)) g5 T v5 ∧
    Below S w1 ((((wr.setCell ⟨gs, 2, none⟩ (.slice (some ⟨Z.heap.size, 0, none⟩) m m)).setCell ⟨S, k * 3, none⟩ (.int .i64 ow)).setCell ⟨S, k * 3 + 1, none⟩ (.int .i64 mrk)).setCell ⟨S, k * 3 + 2, none⟩ (.slice (some ⟨Z.heap.size, 0, none⟩) m m)) := by
  have hSlt := hO.lt
  have h5lt := h5.lt
  have hwr : Below w1.heap.size w1 wr := hZ.trans (hw.mono hZ.size)
  have hW : Below w1.heap.size w1 (wr.setCell ⟨gs, 2, none⟩ (.slice (some ⟨Z.heap.size, 0, none⟩) m m)) := hwr.setCell (p := ⟨gs, 2, none⟩) (Nat.le_of_eq hgs) _
  have hO2 := hO.keep hW
  have h52 := h5.keep hW
  obtain ⟨s, e1, e2, e3, e4, e5, hP, hL⟩ := hI.done ow mrk (S := gs) hZs
  have hP2 : StP (fun b => gs < b) (wr.setCell ⟨gs, 2, none⟩ (.slice (some ⟨Z.heap.size, 0, none⟩) m m)) s := hP.stay (by simp [World.setCell]) fun b _ hp => Below.heap_setCell _ ⟨gs, 2, none⟩ _ b (Nat.ne_of_gt hp)
  have hstep := hO2.step s ⟨by rw [e1, ht], by rw [e2, hmk], by rw [e4, hn], fun j hj => hc j (by rw [← hn]; exact hj) |>.symm.symm |> fun h => by
    have : s.ch j = s.ch j := rfl
    exact (hL j (by rw [← hn]; exact hj)).trans h⟩ (hP2.imp fun b _ hp => by have hp' : gs < b := hp; omega)
  rw [e1, e2, e3, e4, e5] at hstep
  refine ⟨hstep, h52.block (far_cells h5S), below_put (hW.mono (Nat.le_of_lt hSlt)) (Nat.le_refl _) _ _ _ _ _ _⟩
theorem chg_any (F n : Nat) (caps : Array Value) (HEN : ∀ args w, (callFunc F args).run Tryz.prog w = .ok (.enter F args) w) (tg : Nat → StV) (w : World) (hn : n ≤ 1000) (hm : ∀ i, i < n → (tg i).n ≤ 1000) (hbn : ∀ i j, i < n → j < (tg i).n → ((tg i).ch j).n ≤ 1000)
    (HCL : Hid (∀ ix, ix < n → ∀ wx, Below w.heap.size w wx → Calls Tryz.prog F (#[.int .i64 (ix : Int)] ++ caps) wx (RetT (fun _ => True) (tg ix) wx))) :
    Calls Tryz.prog 61 #[.int .i64 (n : Int), .func (.func F) #[] caps] w (RetMo n tg w) := by
  have HN := Lib.hid hn
  have HM := Lib.hid hm
  have HBN := Lib.hid hbn
  clear hm hbn
  have hmk := make_states n (by omega)
  clear hn
  go_enter Tryz.func61, Tryz.ntmps61
  go_upto_region 1 with fail
  generalize hX : w.alloc _ = X
  have HX : Hid (Below w.heap.size w X) := by rw [← hX]; exact below_alloc _ _
  have HR0 : Hid (B1 X w.heap.size 24 (.slice none 0 0)) := by rw [← hX]; exact Lib.hid (B1.new _ _ _)
  have HXS : Hid (X.heap.size = w.heap.size + 1) := by rw [← hX]; exact Lib.hid (by simp)
  clear hX
  go_upto_region 2 with fail
  clear hmk
  generalize hY : World.alloc (World.alloc _ _) _ = Y
  have HOY : Hid (ChgO Y X.heap.size n 0 tg) := by rw [← hY]; exact Lib.hid ((ChgO.new X n tg).keep (below_alloc _ _))
  have H5Y : Hid (B1 Y (X.heap.size + 1) 24 (.slice (some ⟨X.heap.size, 0, none⟩) n n)) := by
    have := B1.new (X.alloc (.cells (madeCells #[.int .i64 0, .int .i64 0, .slice none 0 0] (n * 3)) 53)) 24 (.slice (some ⟨X.heap.size, 0, none⟩) n n)
    rw [hY, show (X.alloc (.cells (madeCells #[.int .i64 0, .int .i64 0, .slice none 0 0] (n * 3)) 53)).heap.size = X.heap.size + 1 from by simp] at this
    exact Lib.hid this
  have HBY : Hid (Below X.heap.size X Y) := by rw [← hY]; exact Lib.hid ((below_alloc _ _).trans ((below_alloc _ _).mono (by simp)))
  have HG4 : Hid (w.heap.size < X.heap.size) := Lib.hid (by have := HXS.out; omega)
  have HNE : Hid (X.heap.size + 1 ≠ X.heap.size) := Lib.hid (by omega)
  clear hY HXS
  generalize X.heap.size + 1 = g5 at *
  obtain ⟨g4, hg4⟩ : ∃ g4, w.heap.size = g4 := ⟨_, rfl⟩
  have HLE : Hid (w.heap.size ≤ g4) := Lib.hid (Nat.le_of_eq hg4)
  rw [hg4] at HR0 HG4 ⊢
  clear hg4
  have b5 := H5Y.out.out
  go_wp2_with fail
  clear b5
  go_loopw [17] (fun i wr => ∃ k : Nat, Hid (k ≤ n) ∧ i = .int .i64 (k : Int) ∧ Hid (ChgO wr X.heap.size n k tg) ∧ Hid (B1 wr g5 24 (.slice (some ⟨X.heap.size, 0, none⟩) n n)) ∧ Hid (Below X.heap.size X wr)) (fun i _ => n - (intOf i).toNat)
  case atStart => exact ⟨0, Nat.zero_le _, rfl, HOY, H5Y, HBY⟩
  case round =>
    clear HOY H5Y HBY
    obtain ⟨k, hk, rfl, hO, h5, hB⟩ := hrel
    by_cases hlt : k < n
    · have hlt' : (k : Int) < (n : Int) := by omega
      have HMK := Lib.hid (HM.out k hlt)
      have HBK := Lib.hid (fun j => HBN.out k j hlt)
      go_wp2_with fail
      (with_reducible refine (HCL.out k hlt _ (HX.out.trans (hB.out.mono HX.out.size))).mono ?_)
      rintro e w1 ⟨u, rfl, ⟨s, rfl, hsl, hsp⟩, hb1⟩
      have HO1 := Lib.hid (hO.out.keep hb1)
      have H51 := Lib.hid (h5.out.keep hb1)
      have HB1 := Lib.hid (hB.out.trans (hb1.mono hB.out.size))
      have HSP := Lib.hid hsp.to
      have HSL := Lib.hid hsl
      clear hb1 hO h5 hB hsl hsp
      rw [← HSL.out.2.2.1] at HMK
      obtain ⟨ow, mrk, D, m, d, src⟩ := s
      dsimp only at HSP HMK ⊢
      go_upto_region 6 with fail
      generalize hZ : World.alloc _ _ = Z
      have HZ1 : Hid (Below w1.heap.size w1 Z) := by rw [← hZ]; exact Lib.hid (below_alloc _ _)
      have HBW : Hid (Bw Z w1.heap.size 53 (.int .i64 ow) (.int .i64 mrk) (.slice D m d)) := by rw [← hZ]; exact Lib.hid (Bw.new _ _ _ _ _)
      have HSZ := Lib.hid (HSP.out.keep HZ1.out)
      clear hZ HSP
      obtain ⟨k0, k1, k2⟩ := HBW.out.out
      have hmc := make_choices m (Nat.le_trans HMK.out (by omega))
      go_upto_region 7 with fail
      clear k0 k1 k2 hmc
      generalize hU : World.alloc _ _ = U
      have HIU : Hid (ChgI U Z.heap.size m 0 src) := by rw [← hU]; exact Lib.hid (ChgI.new _ _ _)
      have HZU : Hid (Below Z.heap.size Z U) := by rw [← hU]; exact Lib.hid (below_alloc _ _)
      clear hU
      obtain ⟨k0, k1, k2⟩ := (HBW.out.keep HZU.out).out
      obtain ⟨gs, hgs⟩ : ∃ gs, w1.heap.size = gs := ⟨_, rfl⟩
      have HGS := Lib.hid hgs
      rw [hgs] at HBW k0 k1 k2 ⊢
      clear hgs
      go_wp2_with fail
      clear k0 k1 k2
      go_loopw [30] (fun i w2 => ∃ j : Nat, Hid (j ≤ m) ∧ i = .int .i64 (j : Int) ∧ Hid (ChgI w2 Z.heap.size m j src) ∧ Hid (Below Z.heap.size Z w2)) (fun i _ => m - (intOf i).toNat)
      case atStart => exact ⟨0, Nat.zero_le _, rfl, HIU, HZU⟩
      case round =>
        clear HIU HZU
        obtain ⟨j, hj, rfl, HI, HZW⟩ := hrel
        by_cases hltj : j < m
        · have hltj' : (j : Int) < (m : Int) := by omega
          obtain ⟨b3, off3, e3, hC3, hbr⟩ := (HSZ.out.keep HZW.out).at hltj
          have hle : (src j).n ≤ 1000 := by
            have h1 := (HSL.out.2.2.2 j (by rw [← HSL.out.2.2.1]; exact hltj)).2.2.1
            rw [h1]
            exact HBK.out j (by rw [← HSL.out.2.2.1]; exact hltj)
          generalize hh : src j = h at hC3 hbr hle
          have HSJ := Lib.hid hh
          have HLE2 := Lib.hid hle
          have HBR := Lib.hid hbr
          obtain ⟨-, s0, s1, s2⟩ := hC3
          clear hh hbr hle
          subst e3
          go_upto_region 10 with fail
          clear s0 s1 s2
          generalize hV : World.alloc _ _ = V
          have HVW : Hid (Below wr.heap.size wr V) := by rw [← hV]; exact Lib.hid (below_alloc _ _)
          have HBC : Hid (Bw V wr.heap.size 65 (.int .i64 h.t) (.int .i64 h.l) (.slice h.A h.n h.c)) := by rw [← hV]; exact Lib.hid (Bw.new _ _ _ _ _)
          have HCO : Hid (∀ wx, Below V.heap.size V wx → Calls Tryz.prog 103 #[.slice h.A h.n h.c] wx fun e w' => ∃ u, e = .returned u ∧ Sm.ok (.br V.heap.size h) u w' ∧ Below wx.heap.size wx w') := Lib.hid fun wx hx =>
            (clone_any h wx ((HBR.out.keep HVW.out).keep hx) HLE2.out).mono fun e w' ⟨u, e1, ⟨A5, c5, e2, hb⟩, hbl⟩ => ⟨u, e1, ⟨A5, c5, e2, hb.imp fun b _ hp => Nat.le_trans hx.size hp⟩, hbl⟩
          clear hV HBR HLE2
          generalize wr.heap.size = gc at HBC ⊢
          have hm1 : m ≤ 1000 := HMK.out
          refine wp_region_flow_store 9 [35, 36, 37, 38, 39, 40, 41, 42, 43] (fun i => 35 + i) (Below V.heap.size V) (EndI Z Z.heap.size m (j + 1) src) (Sml [.val (.slice (some ⟨Z.heap.size, 0, none⟩) m m), .val (.int .i64 (j : Int)), .val (.pointer (some ⟨gc, 0, none⟩)), .val (.agg #[.int .i64 h.t, .int .i64 h.l]), .val (.pointer (some ⟨gc, 2, none⟩)), .val (.slice h.A h.n h.c), .br V.heap.size h, .co V.heap.size h, .val (.pointer (some ⟨Z.heap.size, j * 3, none⟩))]) (by kernel_rfl) (by kernel_rfl) (by kernel_rfl) (by kernel_rfl) (by kernel_rfl) (fun i j _ _ h => Nat.add_left_cancel (show 35 + i = 35 + j from h)) (by decide) (fun wx wy (h : Below V.heap.size V wx) hb => h.trans (hb.mono h.size)) Sml.keep ?_ ?_ ?_ ?_
          · exact Below.drew (Below.refl _ _)
          · intro i v wx o T' K hi ho hF hdep hin hout hK
            have HF := Lib.hid hF
            have HD := Lib.hid hdep
            clear hF hdep
            rcases (by omega : i = 0 ∨ i = 1 ∨ i = 2 ∨ i = 3 ∨ i = 4 ∨ i = 5 ∨ i = 6 ∨ i = 7 ∨ i = 8) with rfl | rfl | rfl | rfl | rfl | rfl | rfl | rfl | rfl
            · obtain rfl := Option.some.inj ho
              have sl8 : T'[8]? = some (.slice (some ⟨Z.heap.size, 0, none⟩) m m) := (hout 8 (by decide)).trans rfl
              clear hin hout ho hi
              go_simp
              exact hK _ _ (Below.refl _ _) rfl
            · obtain rfl := Option.some.inj ho
              have sl9 : T'[9]? = some (.int .i64 (j : Int)) := (hout 9 (by decide)).trans rfl
              clear hin hout ho hi
              go_simp
              exact hK _ _ (Below.refl _ _) rfl
            · obtain rfl := Option.some.inj ho
              have sl10 : T'[10]? = some (.pointer (some ⟨gc, 0, none⟩)) := (hout 10 (by decide)).trans rfl
              clear hin hout ho hi
              go_simp
              exact hK _ _ (Below.refl _ _) rfl
            · obtain rfl := Option.some.inj ho
              have q37 := hin 37 (by decide)
              have e1 : v 37 = (.pointer (some ⟨gc, 0, none⟩)) := HD.out ⟨2, .data⟩ (by simp) rfl
              rw [e1] at q37
              obtain ⟨k0, k1, k2⟩ := (HBC.out.keep HF.out).out
              have hP := (rfl : Value.agg #[.int .i64 h.t, .int .i64 h.l] = .agg #[.int .i64 h.t, .int .i64 h.l])
              clear hin hout ho hi
              go_simp
              exact hK _ _ (Below.refl _ _) hP
            · obtain rfl := Option.some.inj ho
              have sl10 : T'[10]? = some (.pointer (some ⟨gc, 0, none⟩)) := (hout 10 (by decide)).trans rfl
              clear hin hout ho hi
              go_simp
              exact hK _ _ (Below.refl _ _) rfl
            · obtain rfl := Option.some.inj ho
              have q39 := hin 39 (by decide)
              have e1 : v 39 = (.pointer (some ⟨gc, 2, none⟩)) := HD.out ⟨4, .data⟩ (by simp) rfl
              rw [e1] at q39
              obtain ⟨k0, k1, k2⟩ := (HBC.out.keep HF.out).out
              have hP := (rfl : Value.slice h.A h.n h.c = .slice h.A h.n h.c)
              clear hin hout ho hi
              go_simp
              exact hK _ _ (Below.refl _ _) hP
            · obtain rfl := Option.some.inj ho
              have q40 := hin 40 (by decide)
              have e0 : v 40 = (.slice h.A h.n h.c) := HD.out ⟨5, .data⟩ (by simp) rfl
              rw [e0] at q40
              clear hin hout ho hi
              go_simp
              (with_reducible refine (HCO.out _ HF.out).mono ?_)
              rintro e w2 ⟨u, rfl, hu, hB⟩
              exact hK _ _ hB hu
            · obtain rfl := Option.some.inj ho
              have q38 := hin 38 (by decide)
              have q41 := hin 41 (by decide)
              have e0 : v 38 = (.agg #[.int .i64 h.t, .int .i64 h.l]) := HD.out ⟨3, .data⟩ (by simp) rfl
              rw [e0] at q38
              have e1 : Sm.ok (.br V.heap.size h) (v 41) wx := HD.out ⟨6, .data⟩ (by simp) rfl
              obtain ⟨A5, c5, e5, hb5⟩ := e1
              rw [e5] at q41
              clear hin hout ho hi
              go_simp
              exact hK _ _ (Below.refl _ _) ⟨A5, c5, rfl, hb5⟩
            · obtain rfl := Option.some.inj ho
              have q35 := hin 35 (by decide)
              have q36 := hin 36 (by decide)
              have e0 : v 35 = (.slice (some ⟨Z.heap.size, 0, none⟩) m m) := HD.out ⟨0, .data⟩ (by simp) rfl
              rw [e0] at q35
              have e1 : v 36 = (.int .i64 (j : Int)) := HD.out ⟨1, .data⟩ (by simp) rfl
              rw [e1] at q36
              clear hin hout ho hi
              go_simp
              exact hK _ _ (Below.refl _ _) rfl
          · intro v wx o T' K ho hF hall hin hout hK
            obtain rfl := Option.some.inj ho
            have q42 := hin 42 (by decide)
            have h0 : Sm.ok (.co V.heap.size h) (v 42) wx := hall 7 (by decide)
            have q43 := hin 43 (by decide)
            have h8 : v 43 = (.pointer (some ⟨Z.heap.size, j * 3, none⟩)) := hall 8 (by decide)
            rw [h8] at q43
            clear hin hout hall ho
            obtain ⟨A5, c5, e5, hb5⟩ := h0
            rw [e5] at q42
            have HE := Lib.hid (chgEnd HI.out HZW.out HVW.out hF HSJ.out hb5)
            obtain ⟨⟨a0, a1, a2, c0, c1, c2⟩, fr⟩ := (HI.out.keep (HVW.out.trans (hF.mono HVW.out.size))).slot hltj
            have f0 := fr (j * 3)
            have f1 := fr (j * 3 + 1)
            have f2 := fr (j * 3 + 2)
            clear e5 hb5 hF h8 fr
            go_simp
            exact hK _ HE.out
          · intro v wx hE
            have HE := Lib.hid hE
            clear hE
            simp only [over, List.setIfInBounds_toArray, List.set_cons_zero, List.set_cons_succ]
            generalize v 35 = v35
            generalize v 36 = v36
            generalize v 37 = v37
            generalize v 38 = v38
            generalize v 39 = v39
            generalize v 40 = v40
            generalize v 41 = v41
            generalize v 42 = v42
            generalize v 43 = v43
            go_wp2_with fail
            exact ⟨⟨j + 1, Lib.hid (by omega), by rw [show ((j + 1 : Nat) : Int) = (j : Int) + 1 from by omega], Lib.hid HE.out.1, Lib.hid HE.out.2⟩, by simp [intOf]; omega⟩
        · have hje : j = m := by have := hj.out; omega
          have hltj' : ¬ (j : Int) < (m : Int) := by omega
          subst hje
          have HR := Lib.hid (chgRound (ow := ow) (mrk := mrk) HO1.out H51.out HNE.out HGS.out HZ1.out (by have := HBW.out.lt; exact this) HZW.out HBW.out HI.out HSL.out.1.symm HSL.out.2.1.symm HSL.out.2.2.1.symm (fun i hi => HSL.out.2.2.2 i (by rw [← HSL.out.2.2.1]; exact hi)))
          have hbw := HBW.out.keep HZW.out
          obtain ⟨k0, k1, k2⟩ := hbw.out
          obtain ⟨f0, f1, f2⟩ := hbw.frz
          have hgl := hbw.lt
          have hw1r : Below w1.heap.size w1 wr := HZ1.out.trans (HZW.out.mono HZ1.out.size)
          have b5 := (H51.out.keep hw1r).out
          have hOr := HO1.out.keep hw1r
          obtain ⟨⟨a0, a1, a2, c0, c1, c2⟩, fr⟩ := hOr.slot hlt
          have e0 := fr (k * 3)
          have e1 := fr (k * 3 + 1)
          have e2 := fr (k * 3 + 2)
          have hSg : X.heap.size ≠ gs := by have h1 := HO1.out.lt; have h2 := HGS.out; omega
          have h5g : g5 ≠ gs := by have h1 := H51.out.lt; have h2 := HGS.out; omega
          clear fr hbw hgl hw1r hOr
          have hn1 : n ≤ 1000 := HN.out
          go_wp2_with fail
          exact ⟨⟨k + 1, Lib.hid (by omega), by rw [show ((k + 1 : Nat) : Int) = (k : Int) + 1 from by omega], Lib.hid HR.out.1, Lib.hid HR.out.2.1, Lib.hid (HB1.out.trans HR.out.2.2)⟩, by simp [intOf]; omega⟩
    · have hke : k = n := by have := hk.out; omega
      have hlt' : ¬ (k : Int) < (n : Int) := by omega
      subst hke
      have b5 := h5.out.out
      have hr := HR0.out.keep hB.out
      have r0 := hr.out
      have f0 := hr.frz
      have hrl := hr.lt
      have HP := Lib.hid (hr.put (.slice (some ⟨X.heap.size, 0, none⟩) k k))
      have HO2 := Lib.hid (hO.out.stay (w' := wr.setCell ⟨g4, 0, none⟩ (.slice (some ⟨X.heap.size, 0, none⟩) k k)) (by simp [World.setCell]) (fun b hb => Below.heap_setCell _ ⟨g4, 0, none⟩ _ b (by have h := HG4.out; show b ≠ g4; omega)))
      have HB2 := Lib.hid ((HX.out.trans (hB.out.mono HX.out.size)).setCell (p := ⟨g4, 0, none⟩) HLE.out (.slice (some ⟨X.heap.size, 0, none⟩) k k))
      clear hr
      go_wp2_with fail
      generalize wr.setCell ⟨g4, 0, none⟩ (.slice (some ⟨X.heap.size, 0, none⟩) k k) = V at *
      have c0 := HP.out.out
      obtain ⟨st, hL, hl⟩ := HO2.out.doneP (lo := w.heap.size) HX.out.size
      exact bodyPost_ret (v := .agg #[.slice (some ⟨X.heap.size, 0, none⟩) k k]) (by simp [results, Tryz.results61, go_sem, c0]) rfl ⟨_, _, st, rfl, hL, hl, HB2.out⟩
theorem chg_fix (g1 g2 n : Nat) (tg : Nat → StV) (w : World) (hn : n ≤ 1000) (hm : ∀ i, i < n → (tg i).n ≤ 1000) (hbn : ∀ i j, i < n → j < (tg i).n → ((tg i).ch j).n ≤ 1000)
    (HCL : Hid (∀ ix, ix < n → ∀ wx, Below w.heap.size w wx → Calls Tryz.prog 62 #[.int .i64 (ix : Int), .pointer (some ⟨g1, 0, none⟩), .pointer (some ⟨g2, 0, none⟩)] wx (RetT (fun _ => True) (tg ix) wx))) :
    Calls Tryz.prog 61 #[.int .i64 (n : Int), .func (.func 62) #[] #[.pointer (some ⟨g1, 0, none⟩), .pointer (some ⟨g2, 0, none⟩)]] w (RetMo n tg w) :=
  chg_any 62 n #[.pointer (some ⟨g1, 0, none⟩), .pointer (some ⟨g2, 0, none⟩)] (enters_of Tryz.func62 (by kernel_rfl) rfl) tg w hn hm hbn (Lib.hid HCL.out)
theorem chg_for (g1 g2 g3 n : Nat) (tg : Nat → StV) (w : World) (hn : n ≤ 1000) (hm : ∀ i, i < n → (tg i).n ≤ 1000) (hbn : ∀ i j, i < n → j < (tg i).n → ((tg i).ch j).n ≤ 1000)
    (HCL : Hid (∀ ix, ix < n → ∀ wx, Below w.heap.size w wx → Calls Tryz.prog 64 #[.int .i64 (ix : Int), .pointer (some ⟨g1, 0, none⟩), .pointer (some ⟨g2, 0, none⟩), .pointer (some ⟨g3, 0, none⟩)] wx (RetT (fun _ => True) (tg ix) wx))) :
    Calls Tryz.prog 61 #[.int .i64 (n : Int), .func (.func 64) #[] #[.pointer (some ⟨g1, 0, none⟩), .pointer (some ⟨g2, 0, none⟩), .pointer (some ⟨g3, 0, none⟩)]] w (RetMo n tg w) :=
  chg_any 64 n #[.pointer (some ⟨g1, 0, none⟩), .pointer (some ⟨g2, 0, none⟩), .pointer (some ⟨g3, 0, none⟩)] (enters_of Tryz.func64 (by kernel_rfl) rfl) tg w hn hm hbn (Lib.hid HCL.out)
theorem chg_gol (g1 g2 n : Nat) (tg : Nat → StV) (w : World) (hn : n ≤ 1000) (hm : ∀ i, i < n → (tg i).n ≤ 1000) (hbn : ∀ i j, i < n → j < (tg i).n → ((tg i).ch j).n ≤ 1000)
    (HCL : Hid (∀ ix, ix < n → ∀ wx, Below w.heap.size w wx → Calls Tryz.prog 65 #[.int .i64 (ix : Int), .pointer (some ⟨g1, 0, none⟩), .pointer (some ⟨g2, 0, none⟩)] wx (RetT (fun _ => True) (tg ix) wx))) :
    Calls Tryz.prog 61 #[.int .i64 (n : Int), .func (.func 65) #[] #[.pointer (some ⟨g1, 0, none⟩), .pointer (some ⟨g2, 0, none⟩)]] w (RetMo n tg w) :=
  chg_any 65 n #[.pointer (some ⟨g1, 0, none⟩), .pointer (some ⟨g2, 0, none⟩)] (enters_of Tryz.func65 (by kernel_rfl) rfl) tg w hn hm hbn (Lib.hid HCL.out)
end Go.Proofs.YtokbejkkpekpnaaGreatDoor
