/- The line of a choice, by the program. -/
import Derived.Test.YtmfnpipmbpnfbaaGreatDoorF30
import Derived.Test.YtmfnpipmbpnfbaaGreatDoorF31
import Derived.Test.YtmfnpipmbpnfbaaGreatDoorF00
import Derived.Shelf.Strings.Builder1

set_option maxRecDepth 100000
set_option maxHeartbeats 40000000
namespace Go.Proofs.YtmfnpipmbpnfbaaGreatDoor
open Go.RowKit
theorem infoStr : (Tryz.prog.info? 9).map (fun i => (i.zero, i.size, i.bytes)) = some (some (.string ⟨#[]⟩), 1, 16) := by kernel_rfl
def Sr (w : World) (g n : Nat) (s : Nat → ByteArray) : Prop := w.heap[g]? = some (.cells ((List.range n).map fun j => Value.string (s j)).toArray 9 (0, 0))
theorem Sr.lt {w : World} {g n : Nat} {s : Nat → ByteArray} (h : Sr w g n s) : g < w.heap.size := lt_of_heap h
theorem Sr.keep {w w' : World} {g n : Nat} {s : Nat → ByteArray} (h : Sr w g n s) (hb : Below w.heap.size w w') : Sr w' g n s := (hb.block g h.lt).trans h
theorem strs_at {n j : Nat} (s : Nat → ByteArray) (hj : j < n) : ((List.range n).map fun j => Value.string (s j))[j]? = some (.string (s j)) := by
  rw [List.getElem?_map, List.getElem?_range hj]
  rfl
theorem Sr.cellAt {w : World} {g n j : Nat} {s : Nat → ByteArray} (h : Sr w g n s) (hj : j < n) : w.cell? ⟨g, j, none⟩ = some (.string (s j)) := by
  have hh : w.heap[g]? = some (.cells ((List.range n).map fun j => Value.string (s j)).toArray 9 (0, 0)) := h
  have := strs_at s hj
  unfold World.cell?
  simp only [hh]
  simp [hj]
theorem Sr.frozenAt {w : World} {g n : Nat} {s : Nat → ByteArray} (h : Sr w g n s) (j : Nat) : w.frozen? ⟨g, j, none⟩ = false := by
  have hh : w.heap[g]? = some (.cells ((List.range n).map fun j => Value.string (s j)).toArray 9 (0, 0)) := h
  unfold World.frozen?
  simp [hh]
theorem Sr.put {w : World} {g n k : Nat} {s : Nat → ByteArray} (h : Sr w g n s) (x : ByteArray) : Sr (w.setCell ⟨g, k, none⟩ (.string x)) g n (fun j => if j = k then x else s j) := by
  have hh : w.heap[g]? = some (.cells ((List.range n).map fun j => Value.string (s j)).toArray 9 (0, 0)) := h
  rw [setCell_eq_setRow w g k _ _ (0, 0) _ hh]
  show (World.setRow _ g _).heap[g]? = _
  rw [setRow_heap _ g _ _ _ _ hh]
  congr 2
  apply Array.ext'
  apply List.ext_getElem?
  intro j
  simp only [Array.toList_setIfInBounds]
  rw [List.getElem?_set]
  by_cases e : k = j
  · subst e
    by_cases hk : k < n
    · rw [if_pos rfl, if_pos (by simpa using hk), strs_at _ hk, if_pos rfl]
    · rw [if_pos rfl, if_neg (by simpa using hk), List.getElem?_eq_none (by simp; omega)]
  · rw [if_neg e, List.getElem?_map, List.getElem?_map]
    by_cases hj : j < n
    · rw [List.getElem?_range hj]
      simp only [Option.map_some]
      rw [if_neg (Ne.symm e)]
    · rw [List.getElem?_eq_none (by simp; omega)]
      rfl
theorem make_strs (n : Nat) (h : n ≤ 1000000) (w : World) :
    (Instr.makeSlice 93 (.int .i64 (n : Int)) (.int .i64 (n : Int))).run Tryz.prog w = .ok (.slice (some ⟨w.heap.size, 0, none⟩) n n) (w.alloc (.cells (madeCells #[.string ⟨#[]⟩] n) 9)) :=
  run_make_row' (P := Tryz.prog) 93 9 (.string ⟨#[]⟩) 16 Tryz.underlying93 infoStr rfl .i64 .i64 n (by omega) (by omega) w
theorem Sr.new (w : World) (n : Nat) : Sr (w.alloc (.cells (madeCells #[.string ⟨#[]⟩] n) 9)) w.heap.size n (fun _ => ⟨#[]⟩) := by
  unfold Sr
  rw [heap_alloc_new]
  congr 2
  apply Array.ext'
  simp [madeCells, ← Array.toList_range]
  intro a _
  rw [Nat.mod_one]
  rfl
def brS (tw ct cl : Nat → Int) (j : Nat) : ByteArray := (((⟨#[32]⟩ : ByteArray) ++ ⟨(Lib.decDigits (tw j).toNat).toArray⟩) ++ ⟨#[32]⟩) ++ ⟨(textN (ct j) (cl j)).toArray⟩
def preS (s : Nat → ByteArray) (k : Nat) : Nat → ByteArray := fun j => if j < k then s j else ⟨#[]⟩
def chS (h : ChV) : ByteArray := ((((⟨#[99, 104, 111, 105, 99, 101, 32]⟩ : ByteArray) ++ ⟨(textN h.t h.l).toArray⟩) ++ ⟨#[58]⟩) ++ ⟨(Lib.join ((List.range h.n).map fun j => (brS h.tw h.ct h.cl j).data.toList) [44]).toArray⟩) ++ ⟨#[10]⟩
theorem Sr.step {w : World} {g n k : Nat} {s : Nat → ByteArray} (h : Sr w g n (preS s k)) : Sr (w.setCell ⟨g, k, none⟩ (.string (s k))) g n (preS s (k + 1)) := by
  have h2 := h.put (k := k) (s k)
  unfold Sr at h2 ⊢
  rw [h2]
  congr 3
  refine List.map_congr_left fun j _ => ?_
  unfold preS
  dsimp only
  by_cases e : j = k
  · subst e
    rw [if_pos rfl, if_pos (by omega)]
  · rw [if_neg e]
    by_cases h1 : j < k
    · rw [if_pos h1, if_pos (by omega)]
    · rw [if_neg h1, if_neg (by omega)]
theorem dec_len3 {u : Nat} (h : u < 100) : (Lib.decDigits u).length ≤ 3 := by
  rw [Lib.decDigits_length]
  exact nDigits_le (k := 2) u (by omega)
theorem textN_len {t l : Int} (h : vld t l = true) : (textN t l).length ≤ 41 := by
  obtain ⟨h1, h2, -⟩ := vld_abs h
  have a := itoa_len h1
  have b := itoa_len h2
  unfold textN
  split
  · omega
  · rw [List.length_append, List.length_cons]
    omega
theorem pch_any (t l : Int) (A : Option Addr) (n c : Nat) (tw ct cl : Nat → Int) (w : World) (hn1 : 1 ≤ n) (hn : n ≤ 8) (hv : vld t l = true) (hb : ∀ j, j < n → 0 ≤ tw j ∧ tw j < 40 ∧ vld (ct j) (cl j) = true) (hA : Lbr w A n tw ct cl) (htab : Tab w)
    (HJL : Hid ((⟨(Lib.join ((List.range n).map fun j => (brS tw ct cl j).data.toList) [44]).toArray⟩ : ByteArray).size ≤ 1000))
    (HJ : Hid (∀ wx g, Sr wx g n (brS tw ct cl) → Calls Tryz.prog 120 #[.slice (some ⟨g, 0, none⟩) n n, .string ⟨#[44]⟩] wx fun e w' => e = .returned (.string ⟨(Lib.join ((List.range n).map fun j => (brS tw ct cl j).data.toList) [44]).toArray⟩) ∧ Below wx.heap.size wx w')) :
    Calls Tryz.prog 84 #[.agg #[.int .i64 t, .int .i64 l, .slice A n c]] w fun e w' => e = .returned (.string (chS ⟨t, l, A, n, c, tw, ct, cl⟩)) ∧ Below w.heap.size w w' := by
  have HA := Lib.hid hA
  have HB := Lib.hid hb
  have HT : Hid (Tab w) := htab
  have HP : Hid (∀ wx, Below w.heap.size w wx → Calls Tryz.prog 119 #[.agg #[.int .i64 t, .int .i64 l]] wx fun e w' => e = .returned (.tuple #[.string ⟨(textN t l).toArray⟩, .int .i64 0]) ∧ Below wx.heap.size wx w') := fun wx hx => print_ok t l wx hv (htab.keep hx)
  have HPj : Hid (∀ j wx, j < n → Below w.heap.size w wx → Calls Tryz.prog 119 #[.agg #[.int .i64 (ct j), .int .i64 (cl j)]] wx fun e w' => e = .returned (.tuple #[.string ⟨(textN (ct j) (cl j)).toArray⟩, .int .i64 0]) ∧ Below wx.heap.size wx w') := fun j wx hj hx => print_ok _ _ wx (hb j hj).2.2 (htab.keep hx)
  have HL0 : Hid ((⟨(textN t l).toArray⟩ : ByteArray).size ≤ 41) := by
    show (textN t l).toArray.size ≤ 41
    rw [List.size_toArray]
    exact textN_len hv
  have HCS : Hid (chS ⟨t, l, A, n, c, tw, ct, cl⟩ = ((((⟨#[99, 104, 111, 105, 99, 101, 32]⟩ : ByteArray) ++ ⟨(textN t l).toArray⟩) ++ ⟨#[58]⟩) ++ ⟨(Lib.join ((List.range n).map fun j => (brS tw ct cl j).data.toList) [44]).toArray⟩) ++ ⟨#[10]⟩) := rfl
  have hmk := make_strs n (by omega)
  clear hA hb htab hv
  go_enter Tryz.func84, Tryz.ntmps84
  go_upto_region 1 with fail
  generalize hX : w.alloc _ = X
  have HX : Hid (Below w.heap.size w X) := by rw [← hX]; exact below_alloc _ _
  have BX : Hid (Bc3 X w.heap.size (.int .i64 t) (.int .i64 l) (.slice A n c)) := by rw [← hX]; exact Bc3.new _ _ _ _ _
  clear hX
  obtain ⟨x0, x1, x2, -⟩ := BX.out
  go_wp2_with fail
  (with_reducible refine (HP.out X HX.out).mono ?_)
  rintro e w1 ⟨rfl, hB1⟩
  have HB1 := Lib.hid (HX.out.trans (hB1.mono HX.out.size))
  have BX1 := Lib.hid (BX.out.keep hB1)
  generalize (⟨(textN t l).toArray⟩ : ByteArray) = S0 at *
  clear x0 x1 x2 hB1 HX BX
  obtain ⟨x0, x1, x2, -⟩ := BX1.out
  go_upto_region 3 with fail
  generalize hY : w1.alloc _ = Y
  have hYr : Below w1.heap.size w1 Y := by rw [← hY]; exact below_alloc _ _
  have HR : Hid (Sr Y w1.heap.size n (preS (brS tw ct cl) 0)) := by
    rw [← hY]
    have := Sr.new w1 n
    unfold Sr at this ⊢
    rw [this]
    congr 3
  have HY := Lib.hid (HB1.out.trans (hYr.mono HB1.out.size))
  have BX2 := Lib.hid (BX1.out.keep hYr)
  have hg : w.heap.size ≤ w1.heap.size := HB1.out.size
  have HG := Lib.hid hg
  clear hY hYr hmk x0 x1 x2 BX1 hg HB1
  generalize w1.heap.size = g at *
  obtain ⟨x0, x1, x2, -⟩ := BX2.out
  go_wp2_with fail
  clear x0 x1 x2
  go_loopw [23] (fun i wr => ∃ k : Nat, Hid (k ≤ n) ∧ i = .int .i64 (k : Int) ∧ Hid (Sr wr g n (preS (brS tw ct cl) k)) ∧ Hid (Below w.heap.size w wr)) (fun i _ => n - (intOf i).toNat)
  case atStart => exact ⟨0, Nat.zero_le _, rfl, HR, HY⟩
  case round =>
    clear HR HY BX2
    obtain ⟨k, hk, rfl, hR, hW⟩ := hrel
    by_cases hlt : k < n
    · obtain ⟨b, off, rfl, hbb, hcells⟩ := HA.out.keep hW.out (by omega)
      obtain ⟨hc0, hc1, hc2⟩ := hcells k hlt
      dsimp only at hc0 hc1 hc2
      have hlt' : (k : Int) < (n : Int) := by omega
      obtain ⟨u, hu⟩ : ∃ u : Nat, tw k = (u : Int) := ⟨(tw k).toNat, by have := (HB.out k hlt).1; omega⟩
      have hu40 : u < 100 := by have := (HB.out k hlt).2.1; omega
      have HPk := Lib.hid (fun wx => HPj.out k wx hlt)
      have HBR : Hid (brS tw ct cl k = (((⟨#[32]⟩ : ByteArray) ++ ⟨(Lib.decDigits u).toArray⟩) ++ ⟨#[32]⟩) ++ ⟨(textN (ct k) (cl k)).toArray⟩) := Lib.hid (by unfold brS; rw [hu, Int.toNat_natCast])
      have s1 : (⟨(Lib.decDigits u).toArray⟩ : ByteArray).size ≤ 3 := by
        show (Lib.decDigits u).toArray.size ≤ 3
        rw [List.size_toArray]
        exact dec_len3 hu40
      have s2 : (⟨(textN (ct k) (cl k)).toArray⟩ : ByteArray).size ≤ 41 := by
        show (textN (ct k) (cl k)).toArray.size ≤ 41
        rw [List.size_toArray]
        exact textN_len (HB.out k hlt).2.2
      have HI : Hid (∀ wx, Calls Tryz.prog 83 #[.int .i64 (u : Int)] wx fun e w' => e = .returned (.string ⟨(Lib.decDigits u).toArray⟩) ∧ w' = wx) := fun wx => Tryz.strconv_Itoa_small u hu40 wx
      rw [hu] at hc0
      clear hcells hu
      generalize ct k = ck at hc1 HPk HBR s2
      generalize cl k = lk at hc2 HPk HBR s2
      generalize (⟨(Lib.decDigits u).toArray⟩ : ByteArray) = T1 at HBR s1 HI
      generalize (⟨(textN ck lk).toArray⟩ : ByteArray) = T2 at HBR s2 HPk
      have z1 : ¬ 9223372036854775807 < 1 + T1.size := by omega
      have z2 : ¬ 9223372036854775807 < 1 + T1.size + 1 := by omega
      have z3 : ¬ 9223372036854775807 < 1 + T1.size + 1 + T2.size := by omega
      clear s1 s2
      go_upto_region 6 with fail
      generalize hY : wr.alloc _ = Y
      have hYr : Below wr.heap.size wr Y := by subst hY; exact below_alloc _ _
      have BY : Hid (Bc3 Y wr.heap.size (.int .i64 (u : Int)) (.int .i64 ck) (.int .i64 lk)) := by rw [← hY]; exact Bc3.new _ _ _ _ _
      have HY := Lib.hid (hW.out.trans (hYr.mono hW.out.size))
      have HRY := Lib.hid (hR.out.keep hYr)
      clear hY hYr hc0 hc1 hc2 hbb hW hR
      obtain ⟨j0, j1, j2, -⟩ := BY.out
      go_wp2_with fail
      (with_reducible refine (HPk.out Y HY.out).mono ?_)
      rintro e w2 ⟨rfl, hB2⟩
      have HY2 := Lib.hid (HY.out.trans (hB2.mono HY.out.size))
      have HR2 := Lib.hid (HRY.out.keep hB2)
      have BY2 := Lib.hid (BY.out.keep hB2)
      clear j0 j1 j2 hB2 HY HRY BY HPk
      obtain ⟨j0, j1, j2, -⟩ := BY2.out
      go_wp2_with fail
      (with_reducible refine (HI.out _).mono ?_)
      rintro e w3 ⟨rfl, rfl⟩
      have c0 := HR2.out.cellAt hlt
      have f0 := HR2.out.frozenAt k
      have HR3 := Lib.hid (HR2.out.step)
      rw [HBR.out] at HR3
      go_wp2_with fail
      exact ⟨⟨k + 1, Lib.hid (by omega), by rw [show ((k + 1 : Nat) : Int) = (k : Int) + 1 from by omega], HR3, Lib.hid (HY2.out.setCell (p := ⟨g, k, none⟩) HG.out _)⟩, by simp [intOf]; omega⟩
    · have hke : k = n := by have := hk.out; omega
      have hlt' : ¬ (k : Int) < (n : Int) := by omega
      have HF : Hid (Sr wr g n (brS tw ct cl)) := by
        have e : (List.range n).map (fun j => Value.string (preS (brS tw ct cl) k j)) = (List.range n).map (fun j => Value.string (brS tw ct cl j)) := List.map_congr_left fun j hj => by
          have := List.mem_range.1 hj
          unfold preS
          rw [if_pos (by omega)]
        have h := hR.out
        unfold Sr at h ⊢
        rw [e] at h
        exact h
      clear hke hR
      have hj1 := HJL.out
      have h0 := HL0.out
      generalize (⟨(Lib.join ((List.range n).map fun j => (brS tw ct cl j).data.toList) [44]).toArray⟩ : ByteArray) = J at HJ hj1 HCS
      have z1 : ¬ 9223372036854775807 < 7 + S0.size := by omega
      have z2 : ¬ 9223372036854775807 < 7 + S0.size + 1 := by omega
      have z3 : ¬ 9223372036854775807 < 7 + S0.size + 1 + J.size := by omega
      have z4 : ¬ 9223372036854775807 < 7 + S0.size + 1 + J.size + 1 := by omega
      clear hj1 h0 HJL HL0
      go_wp2_with fail
      (with_reducible refine (HJ.out wr g HF.out).mono ?_)
      rintro e w2 ⟨rfl, hB2⟩
      have HY2 := Lib.hid (hW.out.trans (hB2.mono hW.out.size))
      clear hB2
      go_wp2_with fail
      go_ret
      exact ⟨by rw [HCS.out]; rfl, HY2.out⟩
theorem infoBuilder : (Tryz.prog.info? 106).map (·.size) = some 2 := by kernel_rfl
theorem liesBuilder : liesAt Tryz.prog Tryz.prog.depth 106 (2 / Tryz.prog.cellsOf 106) 0 106 1 = true := by kernel_rfl
theorem infoByte : (Tryz.prog.info? 5).map (fun i => (i.zero, i.size, i.bytes)) = some (some (.int .u8 0), 1, 1) := by kernel_rfl
abbrev IsB (B b : Nat) (bs : List Value) (w : World) : Prop := Lib.IsBuilder 106 5 B b bs w
abbrev AtB (B b : Nat) (bs : List Value) (w : World) : Prop := Lib.BuilderAt 106 5 B b (.pointer (some ⟨b, 0, none⟩)) bs w
theorem copyCheck_used (b : Nat) (w : World) (h0 : w.cell? ⟨b, 0, none⟩ = some (.pointer (some ⟨b, 0, none⟩))) :
    Calls Tryz.prog 117 #[.pointer (some ⟨b, 0, none⟩)] w fun e w' => e = .returned (.tuple #[]) ∧ w' = w := by
  obtain ⟨j, hj, _⟩ := Option.map_eq_some_iff.1 infoBuilder
  go_enter Tryz.func117, Tryz.ntmps117
  go_wp2_with fail
  rw [Lib.run_neq_ptr_same w _ Tryz.underlying103 hj]
  go_wp2_with fail
  go_end0
  exact ⟨rfl, rfl⟩
theorem copyCheck_fresh (b : Nat) (w : World) (h0 : w.cell? ⟨b, 0, none⟩ = some (.pointer none)) (hsh : w.shape? b = some (106, 2)) (hfz : w.frozen? ⟨b, 0, none⟩ = false) :
    Calls Tryz.prog 117 #[.pointer (some ⟨b, 0, none⟩)] w fun e w' => e = .returned (.tuple #[]) ∧ w' = w.setCell ⟨b, 0, none⟩ (.pointer (some ⟨b, 0, none⟩)) := by
  obtain ⟨j, hj, hjs⟩ := Option.map_eq_some_iff.1 infoBuilder
  go_enter Tryz.func117, Tryz.ntmps117
  go_wp2_with fail
  rw [Lib.run_to_unsafe w ⟨b, 0, none⟩ Tryz.underlying103 Tryz.underlying170 hj (by rw [hjs]; decide) hsh (Nat.zero_lt_succ 1)]
  simp only [Result.andThen]
  rw [Oper.upon_value]
  go_wp2_with fail
  rw [run_callFunc_extern Tryz.func141 (by kernel_rfl) (by kernel_rfl) (by kernel_rfl) (e := Extern.AbiNoEscape.same) (by kernel_rfl)]
  rw [Lib.run_noEscape]
  simp only [Result.andThen]
  rw [Oper.upon_value]
  go_wp2_with fail
  rw [Lib.run_from_unsafe w ⟨b, 0, none⟩ Tryz.underlying170 Tryz.underlying103 hj hsh liesBuilder]
  simp only [Result.andThen]
  rw [Oper.upon_value]
  go_wp2_with fail
  go_end0
  exact ⟨rfl, rfl⟩
theorem copyCheck_any (B b : Nat) (bs : List Value) (w : World) (h : IsB B b bs w) :
    Calls Tryz.prog 117 #[.pointer (some ⟨b, 0, none⟩)] w fun e w' => e = .returned (.tuple #[]) ∧ AtB B b bs w' ∧ Below B w w' ∧ ∀ g, g ≠ b → w'.heap[g]? = w.heap[g]? := by
  rcases h with h | h
  · refine (copyCheck_fresh b w h.cell0 h.shape h.frozen0).mono ?_
    rintro e w' ⟨rfl, rfl⟩
    exact ⟨rfl, h.used _, (Below.refl B w).setCell (p := ⟨b, 0, none⟩) h.1 _, fun g hg => Below.heap_setCell _ _ _ _ hg⟩
  · refine (copyCheck_used b w h.cell0).mono ?_
    rintro e w' ⟨rfl, rfl⟩
    exact ⟨rfl, h, Below.refl B _, fun _ _ => rfl⟩
theorem writeString_any (B b : Nat) (bs : List Value) (s : ByteArray) (w : World) (h : IsB B b bs w) (hlen : bs.length + s.size ≤ 140737488355328) (hBw : B ≤ w.heap.size) :
    Calls Tryz.prog 82 #[.pointer (some ⟨b, 0, none⟩), .string s] w fun e w' => e = .returned (.tuple #[.int .i64 s.size, .nilIface]) ∧ AtB B b (bs ++ Lib.strCells s) w' ∧ Below B w w' ∧ ∀ g cs T fr, g ≠ b → T ≠ 5 → w.heap[g]? = some (.cells cs T fr) → w'.heap[g]? = some (.cells cs T fr) := by
  obtain ⟨i0, hi, hz0, hz1, hz2⟩ := info_parts infoByte
  go_enter Tryz.func82, Tryz.ntmps82
  go_wp2_with fail
  (with_reducible refine (copyCheck_any B b bs _ h).mono ?_)
  rintro e w1 ⟨rfl, h1, hb1, hk1⟩
  have HK1 := Lib.hid hk1
  clear hk1
  obtain ⟨hB, v, hbk, hown, hne⟩ := h1
  have c0 : w1.cell? ⟨b, 0, none⟩ = some (.pointer (some ⟨b, 0, none⟩)) := by rw [Lib.cell_of_heap hbk]; rfl
  have c1 : w1.cell? ⟨b, 1, none⟩ = some v := by rw [Lib.cell_of_heap hbk]; rfl
  go_wp2_with (at_builtin; refine Lib.wpList_append_own_string _ rfl _ _ 104 9 rfl B 5 i0 Tryz.underlying104 Tryz.underlying9 hi hz0 hz1 hz2 _ _ _ rfl hown s rfl ?c3 ?c4 ?c5 ?_)
  case c3 => unfold maxLen; omega
  case c4 => omega
  case c5 => have := hb1.size; omega
  intro v' w2 hown' hgrow _
  have hlt : b < w1.heap.size := lt_of_heap hbk
  have hb2 : w2.heap[b]? = some (.cells #[.pointer (some ⟨b, 0, none⟩), v] 106 (0, 0)) := (hgrow.block b hlt (fun e => hne e.symm)).trans hbk
  have d0 : w2.cell? ⟨b, 0, none⟩ = some (.pointer (some ⟨b, 0, none⟩)) := by rw [Lib.cell_of_heap hb2]; rfl
  have d1 : w2.cell? ⟨b, 1, none⟩ = some v := by rw [Lib.cell_of_heap hb2]; rfl
  have f1 : w2.frozen? ⟨b, 1, none⟩ = false := Lib.frozen_of_heap hb2 1
  obtain ⟨ao, n', cap, rfl⟩ : ∃ ao n' cap, v' = .slice ao n' cap := by
    rcases hown'.2 with ⟨hv, _⟩ | ⟨g, cap, cur, hv, _⟩
    · exact ⟨_, _, _, hv⟩
    · exact ⟨_, _, _, hv⟩
  go_wp2_with fail
  go_ret2
  refine ⟨rfl, ?_, ?_, fun gg cs T fr hg hT hh => ?_⟩
  · exact Lib.BuilderAt.put (T := 106) (e := 5) hB hb2 (bs' := bs ++ Lib.strCells s) (by simpa [Lib.strCells_length] using hown') (by decide)
  · exact (hb1.grown hgrow (by have := hb1.size; omega) (fun k hk => (hown.lt k hk).1)).setCell (p := ⟨b, 1, none⟩) hB _
  · have h3 : w1.heap[gg]? = some (.cells cs T fr) := (HK1.out gg hg).trans hh
    refine (Below.heap_setCell _ _ _ _ hg).trans ((hgrow.block gg (lt_of_heap h3) (fun e => ?_)).trans h3)
    rcases hown.2 with ⟨hv, _⟩ | ⟨g', cap', cur', hv, _, hc, _⟩
    · rw [hv] at e
      cases e
    · rw [hv] at e
      have e2 : g' = gg := by injection e with e3; exact e3.symm
      subst e2
      rw [hc] at h3
      injection h3 with h3
      injection h3 with _ h4
      exact hT h4.symm
theorem AtB.keep {B b : Nat} {bs : List Value} {w w' : World} (h : AtB B b bs w) (hb : Below w.heap.size w w') : AtB B b bs w' := by
  obtain ⟨hB, v, hbk, hown, hne⟩ := h
  refine ⟨hB, v, (hb.block b (lt_of_heap hbk)).trans hbk, ?_, hne⟩
  obtain ⟨h1, h2 | ⟨g, cap, cur, e1, e2, e3, e4⟩⟩ := hown
  · exact ⟨h1, Or.inl h2⟩
  · exact ⟨h1, Or.inr ⟨g, cap, cur, e1, e2, (hb.block g (lt_of_heap e3)).trans e3, e4⟩⟩
end Go.Proofs.YtmfnpipmbpnfbaaGreatDoor
