/- The program's rename: branches are named anew and put in order. -/
import Derived.Test.YtmfnpipmbpnfbaaGreatDoorF46
import Derived.Test.YtmfnpipmbpnfbaaGreatDoorF42
import Derived.Test.YtmfnpipmbpnfbaaGreatDoorF40
import Derived.Test.YtmfnpipmbpnfbaaGreatDoorF43

set_option maxRecDepth 100000
set_option maxHeartbeats 40000000
namespace Go.Proofs
open Go.Shelf
def Tryz.lays125_ren : Go.Shelf.Ren := ⟨fun | 125 => 139 | 128 => 169 | 129 => 170 | n => n, fun | 3 => 3 | 4 => 4 | 5 => 5 | 9 => 9 | 46 => 136 | 51 => 193 | 53 => 196 | n => n, fun | n => n⟩
theorem Tryz.lays125 : Go.Proofs.Lays.n125 Tryz.prog Tryz.lays125_ren := {
  mixed := by kernel_rfl
  f125 := Tryz.func139.trans (congrArg some (by kernel_rfl))
  f128 := Tryz.func169.trans (congrArg some (by kernel_rfl))
  f129 := Tryz.func170.trans (congrArg some (by kernel_rfl))
  t3 := Tryz.underlying3
  a3 := Tryz.isAgg3
  z3 := Tryz.sizeOf3
  v3 := Tryz.zeroValue3
  t4 := Tryz.underlying4
  a4 := Tryz.isAgg4
  z4 := Tryz.sizeOf4
  v4 := Tryz.zeroValue4
  t5 := Tryz.underlying5
  a5 := Tryz.isAgg5
  z5 := Tryz.sizeOf5
  v5 := Tryz.zeroValue5
  t9 := Tryz.underlying9
  a9 := Tryz.isAgg9
  z9 := Tryz.sizeOf9
  v9 := Tryz.zeroValue9
  t46 := Tryz.underlying136
  a46 := Tryz.isAgg136
  z46 := Tryz.sizeOf136
  v46 := Tryz.zeroValue136
  t51 := Tryz.underlying193
  a51 := Tryz.isAgg193
  z51 := Tryz.sizeOf193
  v51 := Tryz.zeroValue193
  t53 := Tryz.underlying196
  a53 := Tryz.isAgg196
  z53 := Tryz.sizeOf196
  v53 := Tryz.zeroValue196 }
theorem Tryz.bits_Len (x : Int) (w : World) (h0 : 0 ≤ x) (h1 : x ≤ 18446744073709551615) :
    Calls Tryz.prog 139 #[.int .u64 x] w fun e w' => e = .returned (.int .i64 (Lib.bitLen x.toNat)) ∧ w' = w := Any.bits_Len Tryz.lays125 x w h0 h1
end Go.Proofs
namespace Go.Proofs.YtmfnpipmbpnfbaaGreatDoor
open Go.RowKit
theorem ccmp_any (x y : Int) (w : World) : Calls Tryz.prog 112 #[.int .i64 x, .int .i64 y] w fun e w' => e = .returned (.int .i64 (if x < y then -1 else if y < x then 1 else 0)) ∧ w' = w := by
  by_cases h1 : x < y
  · go_enter Tryz.func112, Tryz.ntmps112
    go_wp2_with (go_at_call 133; refine (cisnan_any _ _).mono ?_; rintro e w' ⟨rfl, rfl⟩)
    go_ret
    exact ⟨rfl, rfl⟩
  · by_cases h2 : y < x
    · go_enter Tryz.func112, Tryz.ntmps112
      go_wp2_with (go_at_call 133; refine (cisnan_any _ _).mono ?_; rintro e w' ⟨rfl, rfl⟩)
      go_ret
      exact ⟨rfl, rfl⟩
    · have h3 : ¬ x > y := h2
      go_enter Tryz.func112, Tryz.ntmps112
      go_wp2_with (go_at_call 133; refine (cisnan_any _ _).mono ?_; rintro e w' ⟨rfl, rfl⟩)
      go_ret
      exact ⟨rfl, rfl⟩
theorem rencmp_any (x y : Int × Int × Int) (w : World) :
    Calls Tryz.prog 111 #[.agg (encB x).toArray, .agg (encB y).toArray] w fun e w' => e = .returned (.int .i64 (cfB x y)) ∧ ∃ q os', w' = Go.Sort.grow (w.drewN q) os' := by
  obtain ⟨x0, x1, x2⟩ := x
  obtain ⟨y0, y1, y2⟩ := y
  show Calls Tryz.prog 111 #[.agg #[.int .i64 x0, .int .i64 x1, .int .i64 x2], .agg #[.int .i64 y0, .int .i64 y1, .int .i64 y2]] w _
  have hc : ∀ w, Calls Tryz.prog 112 #[.int .i64 x0, .int .i64 y0] w fun e w' => e = .returned (.int .i64 (cfB (x0, x1, x2) (y0, y1, y2))) ∧ w' = w := fun w => ccmp_any x0 y0 w
  generalize cfB (x0, x1, x2) (y0, y1, y2) = z at hc ⊢
  have HC := Lib.hid hc
  clear hc
  go_enter Tryz.func111, Tryz.ntmps111
  go_upto_region 1 with fail
  go_wp2_with (go_at_call 112; refine (HC.out _).mono ?_; rintro e w' ⟨rfl, rfl⟩)
  go_ret
  exact ⟨rfl, 0, #[.cells #[.int .i64 x0, .int .i64 x1, .int .i64 x2] 74, .cells #[.int .i64 y0, .int .i64 y1, .int .i64 y2] 74], by rw [Go.Sort.alloc_eq_grow, Go.Sort.alloc_eq_grow, Go.Sort.grow_grow]; rfl⟩
def SortEnd (g : Nat) (h : ChV) (w w' : World) : Prop := ∃ n d os, w' = sortWorldK encB 3 w g 0 n d os ∧ Go.Sort.PermIn 0 h.n (arrB h) d ∧ Go.Sort.SortedIn (ltOf cfB) 0 h.n d
theorem isort_any (g c : Nat) (h : ChV) (w : World) (H : BkB w g h) (hn : h.n ≤ 8) :
    Calls Tryz.prog 161 #[.slice (some ⟨g, 0, none⟩) h.n c, .int .i64 0, .int .i64 (h.n : Int), .func (.func 111) #[] #[]] w fun e w' => e = .returned (.tuple #[]) ∧ SortEnd g h w w' := by
  have hcmp : CmpLays Tryz.prog 111 #[] encB 3 cfB g 0 (arrB h).size w := fun m os dk _ x y => by
    rw [Array.append_empty]
    exact rencmp_any x y _
  have key := AnyQ.insertionSortCmpFunc Tryz.srtI 3 Tryz.isAgg74 Tryz.sizeOf74 encB (fun _ => rfl)
    (fun x v hv => by
      simp only [encB, List.mem_cons, List.not_mem_nil, or_false] at hv
      rcases hv with rfl | rfl | rfl <;> rfl) cfB 111 #[] g 0 c 0 h.n (arrB h) w (enters_of Tryz.func111 (by kernel_rfl) rfl) hcmp (bk_holds H) H.1 (Nat.zero_le _) (by rw [arrB_size]; exact Nat.le_refl _) (by rw [arrB_size]; omega)
  rw [arrB_size] at key
  have hs := Go.Sort.insertionSort_holds (lt := ltOf cfB) swoB (arrB h) 0 h.n (Nat.zero_le _) (by rw [arrB_size]; exact Nat.le_refl _)
  exact key.mono fun e w' ⟨h1, n, os, h2⟩ => ⟨h1, n, _, os, h2, hs.1, hs.2⟩
theorem pdq_any (g c : Nat) (h : ChV) (lim : Int) (w : World) (H : BkB w g h) (hn : h.n ≤ 8) :
    Calls Tryz.prog 138 #[.slice (some ⟨g, 0, none⟩) h.n c, .int .i64 0, .int .i64 (h.n : Int), .int .i64 lim, .func (.func 111) #[] #[]] w fun e w' => e = .returned (.tuple #[]) ∧ SortEnd g h w w' := by
  have HI := Lib.hid (isort_any g c h w H hn)
  clear H
  generalize h.n = n at *
  go_enter Tryz.func138, Tryz.ntmps138
  go_wp2
  refine wp_loop_rounds 1 ?_
  rw [rounds_succ]
  go_wp2_with (go_at_call 161; refine HI.out.mono ?_; rintro e w' ⟨rfl, hS⟩)
  (try simp only [Exit.inBlock, Exit.then])
  refine bodyPost_ret (results_none rfl _ _ _) rfl ?_
  exact ⟨rfl, hS⟩
theorem sortf_any (g c : Nat) (h : ChV) (w : World) (H : BkB w g h) (hn : h.n ≤ 8) :
    Calls Tryz.prog 110 #[.slice (some ⟨g, 0, none⟩) h.n c, .func (.func 111) #[] #[]] w fun e w' => e = .returned (.tuple #[]) ∧ SortEnd g h w w' := by
  have HI := Lib.hid (fun lim => pdq_any g c h lim w H hn)
  clear H
  generalize h.n = n at *
  have HL := Lib.hid (Tryz.bits_Len (n : Int) w (by omega) (by omega))
  generalize (Lib.bitLen (n : Int).toNat : Int) = lim at HL
  go_enter Tryz.func110, Tryz.ntmps110
  go_wp2_with (first | (go_at_call 139; refine HL.out.mono ?_; rintro e w' ⟨rfl, rfl⟩) | (go_at_call 138; refine (HI.out _).mono ?_; rintro e w' ⟨rfl, hS⟩))
  go_end0
  exact ⟨rfl, hS⟩
end Go.Proofs.YtmfnpipmbpnfbaaGreatDoor
namespace Go.Proofs.YtmfnpipmbpnfbaaGreatDoor
open Go.RowKit
def midB (nm : Nat → Int) (h : ChV) (k : Nat) : ChV := ⟨h.t, h.l, h.A, h.n, h.c, fun j => if j < k then nm (h.tw j).toNat else h.tw j, h.ct, h.cl⟩
def OnlyB (g : Nat) (w w' : World) : Prop := w.grownBy w' (some g)
theorem OnlyB.refl (g : Nat) (w : World) : OnlyB g w w := ⟨rfl, rfl, rfl, Nat.le_refl _, fun _ _ _ => rfl⟩
theorem OnlyB.set {g : Nat} {w w' : World} (h : OnlyB g w w') (i : Nat) (v : Value) : OnlyB g w (w'.setCell ⟨g, i, none⟩ v) :=
  ⟨h.os, h.tape, h.output, by simpa [World.setCell] using h.size, fun k hk hne => (Below.heap_setCell _ ⟨g, i, none⟩ _ k (fun e => hne (by rw [e]))).trans (h.block k hk hne)⟩
theorem OnlyB.trans {g : Nat} {w w' w'' : World} (h : OnlyB g w w') (h' : OnlyB g w' w'') : OnlyB g w w'' :=
  ⟨h'.os.trans h.os, h'.tape.trans h.tape, h'.output.trans h.output, Nat.le_trans h.size h'.size, fun k hk hne => (h'.block k (Nat.lt_of_lt_of_le hk h.size) hne).trans (h.block k hk hne)⟩
def Rnd (nm : Nat → Int) (g : Nat) (h : ChV) (w w' : World) : Prop := ∃ h', ReC nm h h' ∧ h'.A = h.A ∧ h'.c = h.c ∧ BkB w' g h' ∧ OnlyB g w w'
theorem sort_rnd {nm : Nat → Int} {g : Nat} {h : ChV} {w wr w' : World} (ho : OnlyB g w wr) (hB : BkB wr g ⟨h.t, h.l, h.A, h.n, h.c, fun j => nm (h.tw j).toNat, h.ct, h.cl⟩) (hS : SortEnd g ⟨h.t, h.l, h.A, h.n, h.c, fun j => nm (h.tw j).toNat, h.ct, h.cl⟩ wr w')
    (hinj : ∀ i j, i < h.n → j < h.n → nm (h.tw i).toNat = nm (h.tw j).toNat → i = j) : Rnd nm g h w w' := by
  obtain ⟨q, d, os, rfl, hp, hs⟩ := hS
  obtain ⟨hr, hsz⟩ := sorted_rec hp hs hinj
  have hh := holdsK_sortWorldK_c encB 3 wr g 0 _ d q os (bk_holds hB) hB.1 (by rw [hsz, arrB_size])
  exact ⟨ofArr h d, hr, rfl, rfl, holds_bk (h := h) (Nat.lt_of_lt_of_le hB.1 (size_sortWorldK_c encB 3 wr g 0 q d os)) hsz hh, ho.trans sort_grown⟩
theorem rename_any (g c gn N : Nat) (h : ChV) (nm : Nat → Int) (w : World) (H : BkB w g h) (hn : h.n ≤ 8) (hg : gn ≠ g) (_hN : N ≤ 40) (HN : RowZ w gn N nm) (hin : ∀ j, j < h.n → 0 ≤ h.tw j ∧ (h.tw j).toNat < N) (hinj : ∀ i j, i < h.n → j < h.n → nm (h.tw i).toNat = nm (h.tw j).toNat → i = j) :
    Calls Tryz.prog 76 #[.slice (some ⟨g, 0, none⟩) h.n c, .slice (some ⟨gn, 0, none⟩) N N] w fun e w' => e = .returned (.tuple #[]) ∧ Rnd nm g h w w' := by
  have HB := Lib.hid (H.like (h' := midB nm h 0) rfl fun j _ => ⟨by
    show (if j < 0 then nm (h.tw j).toNat else h.tw j) = h.tw j
    rw [if_neg (Nat.not_lt_zero j)], rfl, rfl⟩)
  have HIN := Lib.hid hin
  have HINJ := Lib.hid hinj
  have HNN := Lib.hid HN
  have HG := Lib.hid hg
  have hlt := HN.lt
  have HL := Lib.hid hlt
  clear H hin hinj HN hlt hg
  obtain ⟨n, hnn⟩ : ∃ n, h.n = n := ⟨_, rfl⟩
  have HHN := Lib.hid hnn
  rw [hnn] at hn ⊢
  clear hnn
  go_enter Tryz.func76, Tryz.ntmps76
  go_upto_region 1 with fail
  go_loopw [7] (fun i wr => ∃ k : Nat, Hid (k ≤ n) ∧ i = .int .i64 (k : Int) ∧ Hid (BkB wr g (midB nm h k)) ∧ Hid (OnlyB g w wr)) (fun i _ => n - (intOf i).toNat)
  case atStart => exact ⟨0, Nat.zero_le _, rfl, HB, OnlyB.refl g w⟩
  case round =>
    obtain ⟨k, hk, rfl, hB, hO⟩ := hrel
    by_cases hlt : k < n
    · have hlt' : (k : Int) < (n : Int) := by omega
      obtain ⟨⟨c0, -, -⟩, f0, -, -⟩ := hB.out.2 k (by show k < h.n; have := HHN.out; omega)
      have e0 : (midB nm h k).tw k = h.tw k := by
        show (if k < k then nm (h.tw k).toNat else h.tw k) = h.tw k
        rw [if_neg (Nat.lt_irrefl k)]
      rw [e0] at c0
      obtain ⟨h0, h1⟩ := HIN.out k (by have := HHN.out; omega)
      obtain ⟨x, hx⟩ := Int.eq_ofNat_of_zero_le h0
      rw [hx] at c0 h1
      have h1' : (x : Int) < (N : Int) := by omega
      have c3 : wr.cell? ⟨gn, x, none⟩ = some (.int .i64 (nm x)) := (HNN.out.block (hO.out.block gn HL.out fun e => HG.out (Option.some.inj e))).cell (by omega)
      have hput := hB.out.put (i := k) (by show k < h.n; have := HHN.out; omega) (nm x)
      have HP := Lib.hid (hput.like (h' := midB nm h (k + 1)) rfl fun j _ => ⟨by
        show (if j < k + 1 then nm (h.tw j).toNat else h.tw j) = (if j = k then nm x else if j < k then nm (h.tw j).toNat else h.tw j)
        by_cases e : j = k
        · rw [if_pos e, if_pos (by omega), e, hx, Int.toNat_natCast]
        · rw [if_neg e]
          by_cases e2 : j < k
          · rw [if_pos e2, if_pos (by omega)]
          · rw [if_neg e2, if_neg (by omega)], rfl, rfl⟩)
      have HO := Lib.hid (hO.out.set (k * 3) (.int .i64 (nm x)))
      clear hput h0 hx
      generalize nm x = y at *
      go_wp2_with fail
      exact ⟨⟨k + 1, Lib.hid (by omega), by rw [show ((k + 1 : Nat) : Int) = (k : Int) + 1 from by omega], HP, HO⟩, by simp [intOf]; omega⟩
    · have hke : k = n := by have := hk.out; omega
      have hlt' : ¬ (k : Int) < (n : Int) := by omega
      have HB2 := Lib.hid (hB.out.like (h' := ⟨h.t, h.l, h.A, h.n, h.c, fun j => nm (h.tw j).toNat, h.ct, h.cl⟩) rfl fun j hj => ⟨by
        show nm (h.tw j).toNat = (if j < k then nm (h.tw j).toNat else h.tw j)
        have hj' : j < h.n := hj
        rw [if_pos (by have := HHN.out; omega)], rfl, rfl⟩)
      have HS := Lib.hid (sortf_any g c _ wr HB2.out (by show h.n ≤ 8; have := HHN.out; omega))
      have HS2 : Hid (Calls Tryz.prog 110 #[.slice (some ⟨g, 0, none⟩) n c, .func (.func 111) #[] #[]] wr fun e w' => e = .returned (.tuple #[]) ∧ Rnd nm g h w w') := Lib.hid (by
        have := HS.out.mono (R' := fun e w' => e = .returned (.tuple #[]) ∧ Rnd nm g h w w') fun e w' hh => ⟨hh.1, sort_rnd hO.out HB2.out hh.2 HINJ.out⟩
        rw [← HHN.out]
        exact this)
      clear HS
      go_wp2_with (go_at_call 110; refine HS2.out.mono ?_; rintro e w' ⟨rfl, hS⟩)
      go_end0
      exact ⟨rfl, hS⟩
theorem mren_no0 (A B : Option Addr) (n c m d : Nat) (w : World) (HV : Hid (CV 20 #[.agg #[.slice A n c]] (.bool false) w)) :
    Calls Tryz.prog 37 #[.agg #[.slice A n c], .slice B m d] w fun e w' => e = .returned (.tuple #[.agg #[.slice none 0 0], .int .i64 1]) ∧ Below w.heap.size w w' := by
  go_enter Tryz.func37, Tryz.ntmps37
  go_upto_region 1 with fail
  generalize hZ : World.alloc _ _ = Z
  have HZ : Hid (Below w.heap.size w Z ∧ B1 Z (w.heap.size) 24 (.slice A n c) ∧ B1 Z (w.heap.size + 1) 25 (.slice B m d) ∧ B1 Z (w.heap.size + 2) 24 (.slice none 0 0)) := Lib.hid (alloc_3 hZ)
  clear hZ
  have HB0 := Lib.hid HZ.out.1
  have X0 := Lib.hid HZ.out.2.1
  have X1 := Lib.hid HZ.out.2.2.1
  have X2 := Lib.hid HZ.out.2.2.2
  clear HZ
  have x0 := X0.out.out
  have x1 := X1.out.out
  go_wp2_with fail
  clear x0 x1
  (with_reducible refine (HV.out.run HB0.out).mono ?_)
  rintro e w1 ⟨rfl, hB⟩
  replace X0 := Lib.hid (X0.out.keep hB)
  replace X1 := Lib.hid (X1.out.keep hB)
  replace X2 := Lib.hid (X2.out.keep hB)
  replace HB0 := Lib.hid (HB0.out.trans (hB.mono HB0.out.size))
  clear hB
  have r0 := X2.out.out
  have f0 := X2.out.frz
  have hl := X2.out.lt
  have HP := Lib.hid (X2.out.put (.slice none 0 0))
  have HQ := Lib.hid (HB0.out.setCell (p := ⟨w.heap.size + 2, 0, none⟩) (Nat.le_add_right _ _) (.slice none 0 0))
  have x0 := X0.out.out
  have x1 := X1.out.out
  generalize w.heap.size + 2 = gr at *
  go_wp2_with fail
  generalize World.setCell _ _ _ = V at *
  have c0 := HP.out.out
  exact bodyPost_ret (v := .tuple #[.agg #[.slice none 0 0], .int .i64 1]) (by simp [results, Tryz.results37, go_sem, c0]) rfl ⟨rfl, HQ.out⟩
theorem mren_no1 (A B : Option Addr) (n c m d : Nat) (w : World) (HV : Hid (CV 20 #[.agg #[.slice A n c]] (.bool true) w)) (HS : Hid (∀ wx, Below w.heap.size w wx → Calls Tryz.prog 74 #[.slice B m d, .int .i64 (n : Int)] wx fun e w' => e = .returned (.tuple #[.slice none 0 0, .bool false]) ∧ Below wx.heap.size wx w')) :
    Calls Tryz.prog 37 #[.agg #[.slice A n c], .slice B m d] w fun e w' => e = .returned (.tuple #[.agg #[.slice none 0 0], .int .i64 6]) ∧ Below w.heap.size w w' := by
  go_enter Tryz.func37, Tryz.ntmps37
  go_upto_region 1 with fail
  generalize hZ : World.alloc _ _ = Z
  have HZ : Hid (Below w.heap.size w Z ∧ B1 Z (w.heap.size) 24 (.slice A n c) ∧ B1 Z (w.heap.size + 1) 25 (.slice B m d) ∧ B1 Z (w.heap.size + 2) 24 (.slice none 0 0)) := Lib.hid (alloc_3 hZ)
  clear hZ
  have HB0 := Lib.hid HZ.out.1
  have X0 := Lib.hid HZ.out.2.1
  have X1 := Lib.hid HZ.out.2.2.1
  have X2 := Lib.hid HZ.out.2.2.2
  clear HZ
  have x0 := X0.out.out
  have x1 := X1.out.out
  go_wp2_with fail
  clear x0 x1
  (with_reducible refine (HV.out.run HB0.out).mono ?_)
  rintro e w1 ⟨rfl, hB⟩
  replace X0 := Lib.hid (X0.out.keep hB)
  replace X1 := Lib.hid (X1.out.keep hB)
  replace X2 := Lib.hid (X2.out.keep hB)
  replace HB0 := Lib.hid (HB0.out.trans (hB.mono HB0.out.size))
  clear hB
  have x0 := X0.out.out
  have x1 := X1.out.out
  go_wp2_with fail
  clear x0 x1
  (with_reducible refine (HS.out _ HB0.out).mono ?_)
  rintro e w2 ⟨rfl, hB⟩
  replace X0 := Lib.hid (X0.out.keep hB)
  replace X1 := Lib.hid (X1.out.keep hB)
  replace X2 := Lib.hid (X2.out.keep hB)
  replace HB0 := Lib.hid (HB0.out.trans (hB.mono HB0.out.size))
  clear hB
  have r0 := X2.out.out
  have f0 := X2.out.frz
  have hl := X2.out.lt
  have HP := Lib.hid (X2.out.put (.slice none 0 0))
  have HQ := Lib.hid (HB0.out.setCell (p := ⟨w.heap.size + 2, 0, none⟩) (Nat.le_add_right _ _) (.slice none 0 0))
  have x0 := X0.out.out
  have x1 := X1.out.out
  generalize w.heap.size + 2 = gr at *
  go_wp2_with fail
  generalize World.setCell _ _ _ = V at *
  have c0 := HP.out.out
  exact bodyPost_ret (v := .tuple #[.agg #[.slice none 0 0], .int .i64 6]) (by simp [results, Tryz.results37, go_sem, c0]) rfl ⟨rfl, HQ.out⟩
def Prg (nm : Nat → Int) (st0' st' : Nat → StV) (n k j : Nat) : Prop :=
  (∀ i, i < n → (st' i).ow = (st0' i).ow ∧ (st' i).mrk = (st0' i).mrk ∧ (st' i).n = (st0' i).n) ∧
  (∀ i q, i < n → q < (st0' i).n → (i < k ∨ (i = k ∧ q < j)) → ReC nm ((st0' i).ch q) ((st' i).ch q)) ∧
  ∀ i q, ¬ (i < k ∨ (i = k ∧ q < j)) → (st' i).ch q = (st0' i).ch q
theorem Prg.zero (nm : Nat → Int) (st : Nat → StV) (n : Nat) : Prg nm st st n 0 0 := ⟨fun _ _ => ⟨rfl, rfl, rfl⟩, fun i q _ _ h => absurd h (by omega), fun _ _ _ => rfl⟩
theorem Prg.next {nm : Nat → Int} {st0' st' : Nat → StV} {n k : Nat} (h : Prg nm st0' st' n k (st0' k).n) : Prg nm st0' st' n (k + 1) 0 :=
  ⟨h.1, fun i q hi hq hh => h.2.1 i q hi hq (by
    rcases Nat.lt_or_ge i k with r | r
    · exact .inl r
    · obtain rfl : i = k := by omega
      exact .inr ⟨rfl, hq⟩), fun i q hh => h.2.2 i q (by omega)⟩
theorem Prg.step {nm : Nat → Int} {st0' st' : Nat → StV} {n k j : Nat} (h : Prg nm st0' st' n k j) {h' : ChV} (hr : ReC nm ((st0' k).ch j) h') : Prg nm st0' (setMo st' k j h') n k (j + 1) := by
  have hch : ∀ i q, (setMo st' k j h' i).ch q = if i = k ∧ q = j then h' else (st' i).ch q := fun i q => by
    unfold setMo
    by_cases e : i = k
    · subst e
      rw [if_pos rfl]
      show (if q = j then h' else (st' i).ch q) = _
      by_cases e2 : q = j
      · rw [if_pos e2, if_pos ⟨rfl, e2⟩]
      · rw [if_neg e2, if_neg fun h => e2 h.2]
    · rw [if_neg e, if_neg fun h => e h.1]
  refine ⟨fun i hi => ?_, fun i q hi hq hh => ?_, fun i q hh => ?_⟩
  · obtain ⟨a, b, -, c, -⟩ := setMo_sh st' k j h' i
    obtain ⟨a', b', c'⟩ := h.1 i hi
    exact ⟨a.trans a', b.trans b', c.trans c'⟩
  · rw [hch]
    by_cases e : i = k ∧ q = j
    · rw [if_pos e, e.1, e.2]; exact hr
    · rw [if_neg e]; exact h.2.1 i q hi hq (by omega)
  · rw [hch, if_neg (by omega)]
    exact h.2.2 i q (by omega)
theorem Prg.done {nm : Nat → Int} {st0' st' : Nat → StV} {n : Nat} (h : Prg nm st0' st' n n 0) : ∀ i, i < n → ReS nm (st0' i) (st' i) := fun i hi => by
  obtain ⟨a, b, c⟩ := h.1 i hi
  exact ⟨a, b, c, fun j hj => h.2.1 i j hi hj (.inl hi)⟩
def RetRn (nm : Nat → Int) (n : Nat) (tg : Nat → StV) (w : World) (e : Ending) (w' : World) : Prop := ∃ A c st, e = .returned (.tuple #[.agg #[.slice A n c], .int .i64 0]) ∧ Lst w' A n st ∧ (∀ i, i < n → ReS nm (tg i) (st i)) ∧ Below w.heap.size w w'
theorem ren_round {nm : Nat → Int} {Wb wr w' : World} {S n k j go : Nat} {st0' st' : Nat → StV} {C : Nat → Nat} {g : Nat → Nat → Nat} {T : Nat} {v : Value} (hM : NewM wr S n st' C g) (hP : Prg nm st0' st' n k j) (hB : Below S Wb wr) (ho : B1 wr go T v) (hgo : ∀ i q, i < n → q < (st0' i).n → g i q ≠ go) (hk : k < n) (hj : j < (st0' k).n) (hS : S ≤ Wb.heap.size)
    (hR : Rnd nm (g k j) ((st' k).ch j) wr w') : ∃ st'', NewM w' S n st'' C g ∧ Prg nm st0' st'' n k (j + 1) ∧ Below S Wb w' ∧ B1 w' go T v := by
  obtain ⟨h', hr, eA, ec, hb, hO⟩ := hR
  have hj' : j < (st' k).n := by have := (hP.1 k hk).2.2; omega
  obtain ⟨ei, li, Ni⟩ := hM.2.1 k hk
  obtain ⟨ej, lj, Bj⟩ := Ni.2.1 j hj'
  have hsame := hP.2.2 k j (by omega)
  refine ⟨setMo st' k j h', hM.put hk hj' h' hr.1 hr.2.1 eA hr.2.2.1 ec hO.size (fun b hb hne => hO.block b hb fun e => hne (Option.some.inj e)) hb, hP.step (by rw [← hsame]; exact hr), hB.trans ⟨hO.os, hO.tape, hO.output, hO.size, fun b hb => hO.block b (Nat.lt_of_lt_of_le hb (Nat.le_trans hS hB.size)) fun e => by have := Option.some.inj e; omega⟩, ?_⟩
  exact ho.block (hO.block go ho.lt fun e => hgo k j hk hj (Option.some.inj e).symm)
end Go.Proofs.YtmfnpipmbpnfbaaGreatDoor
