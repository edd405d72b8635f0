/- The reference's Parse. A printed number reads as itself; Print of the reference. -/
import Derived.Test.YtfhmhkbjcccejaaGreatDoorZ33
import Derived.Test.YtfhmhkbjcccejaaGreatDoorZ43
import Derived.Test.YtfhmhkbjcccejaaGreatDoorZ39
import Derived.Deep.CutBlock
import Derived.Deep.DeepCutAuto
import Derived.Deep.QuietTactic
import Derived.BigQuiet
import Derived.IntWalk

namespace Go.Proofs.YtfhmhkbjcccejaaGreatDoor
open Go.RowKit

theorem bodyS_same {l : List UInt8} (h : minusS l = false) : bodyS l = l := by
  unfold minusS at h
  unfold bodyS
  split at h
  · cases h
  · rfl
theorem bodyS_cons {l : List UInt8} (h : minusS l = true) : l = 45 :: bodyS l := by
  unfold minusS at h
  unfold bodyS
  split at h
  · rfl
  · cases h
theorem extract_list (l : List UInt8) (a b : Nat) : (⟨l.toArray⟩ : ByteArray).extract a b = ⟨((l.take b).drop a).toArray⟩ := by
  apply ByteArray.ext
  rw [ByteArray.data_extract]
  apply Array.ext'
  simp [List.drop_take]
theorem cutS_at {b : List UInt8} {k : Nat} (h : b[k]? = some 47) (hn : (47 : UInt8) ∉ b.take k) : cutS b = (b.take k, some (b.drop (k + 1))) := by
  have hk : k < b.length := (List.getElem?_eq_some_iff.1 h).1
  have e : b = b.take k ++ 47 :: b.drop (k + 1) := by
    have h2 := List.drop_eq_getElem_cons hk
    have h3 : b[k] = 47 := by
      have := List.getElem?_eq_getElem hk
      rw [h] at this
      injection this with this
      exact this.symm
    rw [h3] at h2
    rw [← h2, List.take_append_drop]
  have := cutS_some (k := b.drop (k + 1)) hn
  rw [← e] at this
  exact this

theorem triple {a b c x y z : Int} (h : (a, b, c) = (x, y, z)) : a = x ∧ b = y ∧ c = z := by
  injection h with h1 h2
  injection h2 with h2 h3
  exact ⟨h1, h2, h3⟩

/-- What the head of Parse leaves. -/
def HeadP (w : World) (t k : List UInt8) (a lo : Value) (wx : World) : Prop := a = .string ⟨t.toArray⟩ ∧ lo = .string ⟨k.toArray⟩ ∧ Hid (Wr w.heap.size 23 wx) ∧ Hid (Below w.heap.size w wx)

set_option maxRecDepth 100000 in
set_option maxHeartbeats 20000000 in
theorem rparse_walk (s : ByteArray) (w : World) (hs : s.size ≤ 400) (r1 r2 r3 : Int) (hr : readT s.data.toList = (r1, r2, r3)) :
    Calls Tryz.prog 8 #[.string s] w (Rt r1 r2 r3 w) := by
  obtain ⟨L, hL⟩ : ∃ L, s.data.toList = L := ⟨_, rfl⟩
  have es : s = ⟨L.toArray⟩ := by
    apply ByteArray.ext
    apply Array.ext'
    rw [hL]
  have hN : s.size = L.length := by rw [Lib.size_eq, hL]
  have HGET : Hid (∀ k (h : k < s.size), L[k]? = some (s[k]'h)) := fun k h => by rw [← hL]; exact getD_list s h
  have hemp : s.toList = L := by rw [ByteArray.toList_eq, hL]
  have HN := Lib.hid hN
  have hLl : L.length ≤ 400 := by rw [← hN]; exact hs
  clear hN
  rw [hL] at hr
  have HRR := Lib.hid hr
  clear hr
  obtain ⟨mi, hmi⟩ : ∃ mi, minusS L = mi := ⟨_, rfl⟩
  obtain ⟨b, hb⟩ : ∃ b, bodyS L = b := ⟨_, rfl⟩
  have hbl : b.length ≤ 400 := by rw [← hb]; exact Nat.le_trans (bodyS_len L) hLl
  obtain ⟨t, lo, hc⟩ : ∃ t lo, cutS b = (t, lo) := ⟨_, _, rfl⟩
  obtain ⟨k, hk⟩ : ∃ k, lo.getD [49] = k := ⟨_, rfl⟩
  have hmi0 := hmi
  have hb0 := hb
  go_enter Tryz.func8, Tryz.ntmps8
  go_upto_region 1 with fail
  generalize hX : w.alloc _ = X
  have hwX : Below w.heap.size w X := by rw [← hX]; exact below_alloc _ _
  have hWX : Wr w.heap.size 23 X := by rw [← hX]; exact Wr.new _ _ _ 23 rfl
  clear hX
  have W0 := Lib.hid hWX
  have B0 := Lib.hid hwX
  clear hWX hwX
  go_upto_region 2 with fail
  go_cut [5] (fun n wx => n = .bool mi ∧ X = wx)
  case first =>
    clear hb hbl hc hk es
    cases L with
    | nil =>
      subst hmi
      go_wp2_with fail
      go_meet
      exact ⟨rfl, rfl⟩
    | cons c t =>
      have h0 : 0 < s.size := by rw [HN.out]; exact Nat.succ_pos _
      have h0' : (0 : Int) < (s.size : Int) := by omega
      have hg := HGET.out 0 h0
      have hc : s[0]'h0 = c := by injection hg with hg; exact hg.symm
      have hcx : (((s[0]'h0).toNat : Nat) : Int) = ((c.toNat : Nat) : Int) := by rw [hc]
      by_cases h45 : c = 45
      · subst h45
        subst hmi
        go_wp2_with fail
        go_meet
        exact ⟨rfl, rfl⟩
      · have e1 : (((c.toNat : Nat) : Int) == 45) = false := by
          rw [beq_eq_false_iff_ne]
          intro e
          exact h45 (UInt8.toNat_inj.1 (by rw [show (45 : UInt8).toNat = 45 from by decide]; omega))
        have HM : mi = false := by
          rw [← hmi]
          unfold minusS
          split
          · rename_i e; injection e with e; exact absurd e h45
          · rfl
        subst HM
        clear h45 hc hg hmi
        go_wp2_with fail
        go_meet
        exact ⟨rfl, rfl⟩
  case rest =>
    obtain ⟨rfl, rfl⟩ := hcut
    go_upto_if 20 with fail
    go_cut [4] (fun a wx => a = .string ⟨b.toArray⟩ ∧ X = wx)
    case first =>
      clear hc hk hbl
      cases mi with
      | false =>
        have e : s = ⟨b.toArray⟩ := by rw [es, ← hb, bodyS_same hmi]
        clear es hb hmi
        go_wp2_with fail
        go_meet
        exact ⟨by rw [← e], rfl⟩
      | true =>
        have hc1 := bodyS_cons hmi
        rw [hb] at hc1
        have e : s.extract 1 s.size = ⟨b.toArray⟩ := by
          rw [es, extract_list, ← es, HN.out, List.take_length, hc1]
          rfl
        have h1 : (1 : Int) ≤ (s.size : Int) := by
          have : s.size = b.length + 1 := by rw [HN.out, hc1, List.length_cons]
          omega
        clear es hb hmi hc1
        go_wp2_with fail
        go_meet
        exact ⟨rfl, rfl⟩
    case rest =>
      obtain ⟨rfl, rfl⟩ := hcut
      clear hb hmi es
      obtain ⟨B, hB⟩ : ∃ B : ByteArray, (⟨b.toArray⟩ : ByteArray) = B := ⟨_, rfl⟩
      rw [hB]
      have hBN : B.size = b.length := by rw [← hB]; exact string_size b
      have HBG : Hid (∀ k (h : k < B.size), b[k]? = some (B[k]'h)) := fun k h => by
        have := getD_list B h
        rw [show B.data.toList = b from by rw [← hB]] at this
        exact this
      have HX : Hid (∀ i j, B.extract i j = ⟨((b.take j).drop i).toArray⟩) := fun i j => by rw [← hB]; exact extract_list b i j
      have HBN := Lib.hid hBN
      have hB4 : B.size ≤ 400 := by rw [hBN]; exact hbl
      have HB := Lib.hid hB
      clear hBN hB
      go_upto_block 0 with fail
      go_cut [4, 6] (fun a lo wx => HeadP w t k a lo wx)
      case first =>
        go_wp2_with fail
        go_loopw [4, 6, 7] (fun a lo i wr => ∃ j : Nat, Hid (j ≤ B.size) ∧ a = .string B ∧ lo = .string ⟨#[49]⟩ ∧ i = .int .i64 (j : Int) ∧ Hid ((47 : UInt8) ∉ b.take j) ∧ wr = X) (fun _ _ i _ => B.size - (intOf i).toNat)
        case atStart => exact ⟨0, Nat.zero_le _, rfl, rfl, rfl, Lib.hid (by simp), rfl⟩
        case round =>
          obtain ⟨j, hj, rfl, rfl, rfl, hno, rfl⟩ := hrel
          by_cases hlt : j < B.size
          · have hlt' : (j : Int) < (B.size : Int) := by omega
            have hg := HBG.out j hlt
            obtain ⟨c, hcc⟩ : ∃ c, B[j]'hlt = c := ⟨_, rfl⟩
            rw [hcc] at hg
            have hcx : (((B[j]'hlt).toNat : Nat) : Int) = ((c.toNat : Nat) : Int) := by rw [hcc]
            by_cases h47 : c = 47
            · subst h47
              have hcut2 := cutS_at hg hno.out
              rw [hc] at hcut2
              injection hcut2 with ht1 ht2
              subst ht2
              have hk1 : b.drop (j + 1) = k := hk
              have hx1 : B.extract 0 j = ⟨t.toArray⟩ := by rw [HX.out, ht1]; rfl
              have hx2 : B.extract (j + 1) B.size = ⟨k.toArray⟩ := by rw [HX.out, HBN.out, List.take_length, hk1]
              have hcx47 : (((B[j]'hlt).toNat : Nat) : Int) = 47 := by rw [hcx]; decide
              have hi1 : (j : Int) ≤ (B.size : Int) := by omega
              have hi0 : (0 : Int) ≤ (j : Int) := by omega
              have h0j : (0 : Int) ≤ (j : Int) + 1 := by omega
              have hle : (j : Int) + 1 ≤ (B.size : Int) := by omega
              have htn : ((j : Int) + 1).toNat = j + 1 := by omega
              have hwj : IntKind.i64.wrap ((j : Int) + 1) = (j : Int) + 1 := IntWalk.i64_in _ (by omega)
              clear hc hk hk1 ht1 hg hcc hcx hLl hbl hs
              go_upto_region 10 with fail
              go_quiet (fail)
              go_wp2_with fail
              go_meet
              exact ⟨rfl, rfl, W0.out, ⟨B0.out.os, B0.out.tape, B0.out.output, B0.out.size, B0.out.block⟩⟩
            · have e1 : (((c.toNat : Nat) : Int) == 47) = false := by
                rw [beq_eq_false_iff_ne]
                intro e
                exact h47 (UInt8.toNat_inj.1 (by rw [show (47 : UInt8).toNat = 47 from by decide]; omega))
              have hno1 : Hid ((47 : UInt8) ∉ b.take (j + 1)) := by
                show ¬ _
                rw [List.take_add_one, hg, List.mem_append]
                rintro (h | h)
                · exact hno.out h
                · exact h47 (by simpa using h : (47 : UInt8) = c).symm
              clear hc hk hg hcc h47 hno
              go_wp2_with fail
              exact ⟨⟨j + 1, Lib.hid (by omega), rfl, rfl, by rw [show ((j + 1 : Nat) : Int) = (j : Int) + 1 from by omega], hno1, trivial⟩, by simp only [intOf]; omega⟩
          · have hje : j = B.size := by have := hj.out; omega
            have hlt' : ¬ (j : Int) < (B.size : Int) := by omega
            have hnb := hno.out
            rw [hje, HBN.out, List.take_length] at hnb
            have hcut2 := cutS_none hnb
            rw [hc] at hcut2
            injection hcut2 with ht1 ht2
            subst ht2
            have hk1 : [49] = k := hk
            have HF := Lib.hid (show HeadP w t k (.string B) (.string ⟨#[49]⟩) wr from ⟨by rw [ht1, HB.out], by rw [← hk1], W0, B0⟩)
            clear hc hk hk1 ht1 hnb hje hno
            go_wp2_with fail
            go_meet
            exact HF.out
      case rest =>
        obtain ⟨rfl, rfl, W1, B1⟩ := hcut
        have hlen := cutS_len b
        rw [hc] at hlen
        have ht : t.length ≤ 400 := Nat.le_trans hlen.1 hbl
        have hkl : k.length ≤ 400 := by
          cases lo with
          | none => rw [← hk]; decide
          | some x => rw [← hk]; exact Nat.le_trans (hlen.2 x rfl) hbl
        have HL1 : Hid (∀ wx, Calls Tryz.prog 23 #[.string ⟨t.toArray⟩] wx (RetLg t wx)) := fun wx => rlong_any ⟨t.toArray⟩ wx (by rw [string_size]; exact ht)
        have HL2 : Hid (∀ wx, Calls Tryz.prog 23 #[.string ⟨k.toArray⟩] wx (RetLg k wx)) := fun wx => rlong_any ⟨k.toArray⟩ wx (by rw [string_size]; exact hkl)
        have HRD : Hid ((r1, r2, r3) = if !isDec t || !isDec k || decV 0 k == 0 then (0, 0, 4) else if L.length > 200 then (0, 0, 3) else outT (mkRat (if mi then -(decV 0 t : Int) else (decV 0 t : Int)) (decV 0 k))) := by
          show _ = _
          rw [← HRR.out]
          unfold readT
          rw [hb0, hc, hmi0]
          simp only [hk]
        clear HRR hlen hc hk hb0 hmi0 HB HX HBG HBN hB4
        go_wp2_with fail
        (with_reducible refine (HL1.out _).mono ?_)
        rintro e w3 ⟨s3, n3, A3, m3, c3, z3, rfl, hiv3, hz3, hB3⟩
        have W3a := Lib.hid (W1.out.keep hB3)
        have B3a := Lib.hid (B1.out.trans (hB3.mono B1.out.size))
        clear hB3 HL1 W1 B1
        go_upto_region 12 with fail
        generalize hY : w3.alloc _ = Y
        have hBY : Below w3.heap.size w3 Y := by rw [← hY]; exact below_alloc _ _
        have b3 : B3 w3.heap.size (.int .i64 s3) (.bool n3) (.slice A3 m3 c3) Y := by rw [← hY]; exact B3.new _ _ _ _
        have v3 : W3 w3.heap.size Y := by rw [← hY]; exact W3.new _ _ _ _ rfl
        have I3 := Lib.hid (hiv3.keep hBY)
        have B3b := Lib.hid b3
        have V3 := Lib.hid v3
        have W3b := Lib.hid (W3a.out.keep hBY)
        have BY := Lib.hid (B3a.out.trans (hBY.mono B3a.out.size))
        have hlg : w.heap.size < w3.heap.size := W3a.out.2.2.2.lt
        generalize w3.heap.size = g1 at *
        clear hY hBY b3 v3 hiv3 W3a B3a
        go_wp2_with fail
        (with_reducible refine (HL2.out _).mono ?_)
        rintro e w4 ⟨s4, n4, A4, m4, c4, z4, rfl, hiv4, hz4, hB4⟩
        have I4 := Lib.hid (I3.out.keep hB4)
        have W4a := Lib.hid (W3b.out.keep hB4)
        have B4a := Lib.hid (BY.out.trans (hB4.mono BY.out.size))
        have B4b := Lib.hid (B3b.out.keep hB4)
        have V4 := Lib.hid (V3.out.keep hB4)
        clear hB4 HL2 I3 B3b V3 W3b BY
        go_upto_region 13 with fail
        generalize hZ : w4.alloc _ = Z
        have hBZ : Below w4.heap.size w4 Z := by rw [← hZ]; exact below_alloc _ _
        have b5 : B3 w4.heap.size (.int .i64 s4) (.bool n4) (.slice A4 m4 c4) Z := by rw [← hZ]; exact B3.new _ _ _ _
        have J3 := Lib.hid (I4.out.keep hBZ)
        have J4 := Lib.hid (hiv4.keep hBZ)
        have W5 := Lib.hid (W4a.out.keep hBZ)
        have B5 := Lib.hid (B4a.out.trans (hBZ.mono B4a.out.size))
        have X3 := Lib.hid (B4b.out.keep hBZ)
        have X4 := Lib.hid b5
        have V5 := Lib.hid (V4.out.keep hBZ)
        have hgg : g1 < w4.heap.size := B4b.out.2.2.2
        generalize w4.heap.size = g2 at *
        clear hZ hBZ b5 hiv4 I4 W4a B4a B4b V4
        have hv := HRD.out
        have hb : ∀ l : List UInt8, isDec l = true → l.length ≤ 400 → decV 0 l < Bs ^ 1000 := fun l h hl => by
          have h1 := decV_take_lt (Bool.and_eq_true_iff.1 h).1 l.length
          rw [List.take_length] at h1
          exact Nat.lt_trans h1 (@W_lt_Bs' (l.length + 1) 1000 (by omega))
        cases d1 : isDec t with
        | false =>
          rw [if_pos (by simp [d1])] at hv
          have HV := Lib.hid (triple hv)
          clear hv
          clear hz3 hz4 hb HRD
          obtain ⟨⟨p1, p2, p3, p4⟩, p5, p6, p7⟩ := W5.out
          go_wp2_with fail
          exact bodyPost_ret (v := .tuple #[.agg #[.int .i64 0, .int .i64 0], .int .i64 4]) (by simp [results, Tryz.results8, go_sem, *]) rfl ⟨by rw [HV.out.1, HV.out.2.1, HV.out.2.2], (B5.out.setCell (Nat.le_refl _) _).setCell (Nat.le_refl _) _⟩
        | true =>
          cases d2 : isDec k with
          | false =>
            rw [if_pos (by simp [d1, d2])] at hv
            have HV := Lib.hid (triple hv)
            clear hv
            clear hz3 hz4 hb HRD
            obtain ⟨⟨p1, p2, p3, p4⟩, p5, p6, p7⟩ := W5.out
            go_wp2_with fail
            exact bodyPost_ret (v := .tuple #[.agg #[.int .i64 0, .int .i64 0], .int .i64 4]) (by simp [results, Tryz.results8, go_sem, *]) rfl ⟨by rw [HV.out.1, HV.out.2.1, HV.out.2.2], (B5.out.setCell (Nat.le_refl _) _).setCell (Nat.le_refl _) _⟩
          | true =>
            have h3 := hz3 d1
            have h4 := hz4 d2
            subst h3
            subst h4
            have hb3 := hb t d1 ht
            have hb4 := hb k d2 hkl
            have HS : Hid (∀ wx u, IV wx u (decV 0 k : Nat) → Calls Tryz.prog 24 #[u] wx (RetV (.val (.int .i64 (sgnI (decV 0 k : Nat)))) wx)) := fun wx u h => iv_sign 1000 h (by omega) (by rw [Int.natAbs_natCast]; exact hb4)
            obtain ⟨sg, hsg⟩ : ∃ sg, sgnI ((decV 0 k : Nat) : Int) = sg := ⟨_, rfl⟩
            have hsz : (sg == 0) = (decV 0 k == 0) := by
              rw [← hsg, Bool.eq_iff_iff, beq_iff_eq, beq_iff_eq]
              unfold sgnI
              split
              · omega
              · split <;> omega
            rw [hsg] at HS
            have HB3 := Lib.hid hb3
            have HB4 := Lib.hid hb4
            cases d3 : (decV 0 k == 0) with
            | true =>
              rw [if_pos (by simp [d1, d2, d3])] at hv
              have HV := Lib.hid (triple hv)
              clear hv
              rw [d3] at hsz
              clear hz3 hz4 hb HRD hb3 hb4 hsg
              obtain ⟨x0, x1, x2, -⟩ := X4.out
              go_wp2_with fail
              (with_reducible refine (HS.out _ _ J4.out).mono ?_)
              rintro e w5 ⟨u, rfl, hu, hB5⟩
              have hu' : u = .int .i64 sg := hu
              subst hu'
              have W6 := Lib.hid (W5.out.keep hB5)
              have B6 := Lib.hid (B5.out.trans (hB5.mono B5.out.size))
              clear hB5 HS x0 x1 x2
              obtain ⟨⟨p1, p2, p3, p4⟩, p5, p6, p7⟩ := W6.out
              go_wp2_with fail
              exact bodyPost_ret (v := .tuple #[.agg #[.int .i64 0, .int .i64 0], .int .i64 4]) (by simp [results, Tryz.results8, go_sem, *]) rfl ⟨by rw [HV.out.1, HV.out.2.1, HV.out.2.2], (B6.out.setCell (Nat.le_refl _) _).setCell (Nat.le_refl _) _⟩
            | false =>
              rw [if_neg (by simp [d1, d2, d3])] at hv
              have HW := Lib.hid hv
              clear hv
              rw [d3] at hsz
              have hne : ((decV 0 k : Nat) : Int) ≠ 0 := by
                have := beq_eq_false_iff_ne.1 d3
                omega
              clear hz3 hz4 hb HRD hb3 hb4 hsg d3
              obtain ⟨x0, x1, x2, -⟩ := X4.out
              go_wp2_with fail
              (with_reducible refine (HS.out _ _ J4.out).mono ?_)
              rintro e w5 ⟨u, rfl, hu, hB5⟩
              have hu' : u = .int .i64 sg := hu
              subst hu'
              have W6 := Lib.hid (W5.out.keep hB5)
              have B6 := Lib.hid (B5.out.trans (hB5.mono B5.out.size))
              have K3 := Lib.hid (J3.out.keep hB5)
              have K4 := Lib.hid (J4.out.keep hB5)
              have Y3 := Lib.hid (X3.out.keep hB5)
              have Y4 := Lib.hid (X4.out.keep hB5)
              have V6 := Lib.hid (V5.out.keep hB5)
              clear hB5 HS x0 x1 x2 J3 J4 W5 B5 X3 X4 V5
              by_cases hlong : L.length > 200
              · have hl : decide ((200 : Int) < (s.size : Int)) = true := by rw [HN.out]; simp; omega
                have hv := HW.out
                rw [if_pos hlong] at hv
                have HV := Lib.hid (triple hv)
                clear hv HW
                clear hlong hne
                obtain ⟨⟨p1, p2, p3, p4⟩, p5, p6, p7⟩ := W6.out
                go_wp2_with fail
                exact bodyPost_ret (v := .tuple #[.agg #[.int .i64 0, .int .i64 0], .int .i64 3]) (by simp [results, Tryz.results8, go_sem, *]) rfl ⟨by rw [HV.out.1, HV.out.2.1, HV.out.2.2], (B6.out.setCell (Nat.le_refl _) _).setCell (Nat.le_refl _) _⟩
              · have hl : decide ((200 : Int) < (s.size : Int)) = false := by rw [HN.out]; simp; omega
                have hv := HW.out
                rw [if_neg hlong] at hv
                clear hlong HW
                obtain ⟨N, hNN⟩ : ∃ N : Int, (if mi = true then -((decV 0 t : Nat) : Int) else ((decV 0 t : Nat) : Int)) = N := ⟨_, rfl⟩
                rw [hNN] at hv
                have hNa : N.natAbs < Bs ^ 1000 := by
                  have e : N.natAbs = decV 0 t := by
                    rw [← hNN]
                    split <;> omega
                  rw [e]
                  exact HB3.out
                have hKa : ((decV 0 k : Nat) : Int).natAbs < Bs ^ 1000 := by rw [Int.natAbs_natCast]; exact HB4.out
                have hq := qt_le N _ hne
                rw [qt_mk] at hq
                have q1 := Nat.lt_of_le_of_lt hq.1 hNa
                have q2 := Nat.lt_of_le_of_lt hq.2 hKa
                have HMk : Hid (∀ wx u u', IV wx u N → IV wx u' (decV 0 k : Nat) → Calls Tryz.prog 27 #[u, u'] wx (RetV (.rat (mkRat N (decV 0 k))) wx)) := fun wx u u' h h' => by
                  have := iv_make 1000 h h' (by omega) hNa hKa hne
                  rw [qt_mk] at this
                  exact this
                have HNm : Hid (∀ wx u, RFV wx u (mkRat N (decV 0 k)) → Calls Tryz.prog 26 #[u] wx (Rt r1 r2 r3 wx)) := fun wx u h => by
                  have := rv_numRt 1000 h (by omega) ⟨q1, q2⟩
                  rw [← hv] at this
                  exact this
                clear hv
                generalize mkRat N (decV 0 k) = x at *
                generalize hd0 : ((decV 0 k : Nat) : Int) = d0 at *
                clear hq q1 q2 hKa hne
                cases mi with
                | false =>
                  rw [if_neg (by simp)] at hNN
                  rw [hNN] at K3
                  clear hNN hNa
                  obtain ⟨x0, x1, x2, -⟩ := Y3.out
                  obtain ⟨y0, y1, y2, -⟩ := Y4.out
                  have HMM := Lib.hid (HMk.out w5 _ _ K3.out K4.out)
                  clear HMk
                  go_wp2_with fail
                  (with_reducible refine HMM.out.mono ?_)
                  rintro e w8 ⟨u8, rfl, hu8, hB8⟩
                  have HNN := Lib.hid (HNm.out w8 u8 hu8)
                  have W8 := Lib.hid (W6.out.keep hB8)
                  have B8 := Lib.hid (B6.out.trans (hB8.mono B6.out.size))
                  clear hB8 HMM HNm hu8 x0 x1 x2 y0 y1 y2
                  go_wp2_with fail
                  (with_reducible refine HNN.out.mono ?_)
                  rintro e w9 ⟨rfl, hB9⟩
                  have W9 := Lib.hid (W8.out.keep hB9)
                  have B9 := Lib.hid (B8.out.trans (hB9.mono B8.out.size))
                  clear hB9 HNN W8 B8
                  obtain ⟨⟨p1, p2, p3, p4⟩, p5, p6, p7⟩ := W9.out
                  go_wp2_with fail
                  exact bodyPost_ret (v := .tuple #[.agg #[.int .i64 r1, .int .i64 r2], .int .i64 r3]) (by simp [results, Tryz.results8, go_sem, *]) rfl ⟨rfl, (B9.out.setCell (Nat.le_refl _) _).setCell (Nat.le_refl _) _⟩
                | true =>
                  rw [if_pos rfl] at hNN
                  have HMi : Hid (∀ wx u, IV wx u (decV 0 t : Nat) → Calls Tryz.prog 25 #[u] wx (RetV (.int N) wx)) := fun wx u h => by
                    rw [← hNN]
                    exact iv_minus 1000 h (by omega) (by rw [Int.natAbs_natCast]; exact HB3.out)
                  clear hNN hNa
                  obtain ⟨x0, x1, x2, -⟩ := Y3.out
                  go_wp2_with fail
                  (with_reducible refine (HMi.out _ _ K3.out).mono ?_)
                  rintro e w6 ⟨u6, rfl, hu6, hB6⟩
                  obtain ⟨s6, n6, A6, m6, c6, rfl, hr6⟩ := hu6
                  have W7 := Lib.hid (W6.out.keep hB6)
                  have B7 := Lib.hid (B6.out.trans (hB6.mono B6.out.size))
                  have V7 := V6.out.keep hB6
                  have K4b := K4.out.keep hB6
                  have Y4b := Y4.out.keep hB6
                  have HE : Hid (IV (((w6.setCell ⟨g1, 0, none⟩ (.int .i64 s6)).setCell ⟨g1, 1, none⟩ (.bool n6)).setCell ⟨g1, 2, none⟩ (.slice A6 m6 c6)) (.agg #[.int .i64 s6, .bool n6, .slice A6 m6 c6]) N ∧
                      IV (((w6.setCell ⟨g1, 0, none⟩ (.int .i64 s6)).setCell ⟨g1, 1, none⟩ (.bool n6)).setCell ⟨g1, 2, none⟩ (.slice A6 m6 c6)) (.agg #[.int .i64 s4, .bool n4, .slice A4 m4 c4]) d0 ∧
                      B3 g1 (.int .i64 s6) (.bool n6) (.slice A6 m6 c6) (((w6.setCell ⟨g1, 0, none⟩ (.int .i64 s6)).setCell ⟨g1, 1, none⟩ (.bool n6)).setCell ⟨g1, 2, none⟩ (.slice A6 m6 c6)) ∧
                      B3 g2 (.int .i64 s4) (.bool n4) (.slice A4 m4 c4) (((w6.setCell ⟨g1, 0, none⟩ (.int .i64 s6)).setCell ⟨g1, 1, none⟩ (.bool n6)).setCell ⟨g1, 2, none⟩ (.slice A6 m6 c6)) ∧
                      Wr w.heap.size 23 (((w6.setCell ⟨g1, 0, none⟩ (.int .i64 s6)).setCell ⟨g1, 1, none⟩ (.bool n6)).setCell ⟨g1, 2, none⟩ (.slice A6 m6 c6)) ∧
                      Below w.heap.size w (((w6.setCell ⟨g1, 0, none⟩ (.int .i64 s6)).setCell ⟨g1, 1, none⟩ (.bool n6)).setCell ⟨g1, 2, none⟩ (.slice A6 m6 c6))) :=
                    ⟨⟨s6, n6, A6, m6, c6, rfl, hr6.set_3 V7 _ _ _⟩, K4b.set_3 V7 _ _ _, (V7.set _ _ _).1, Y4b.set_3 (Nat.ne_of_gt hgg) _ _ _, ((W7.out.far (Nat.ne_of_lt hlg) _ _).far (Nat.ne_of_lt hlg) _ _).far (Nat.ne_of_lt hlg) _ _, set3_below B7.out (Nat.le_of_lt hlg) _ _ _⟩
                  obtain ⟨⟨o0, o1, o2, t0, t1, t2⟩, f0, f1, f2, -⟩ := V7
                  clear hB6 hr6 HMi x0 x1 x2 K3 K4 K4b Y3 Y4 Y4b V6 W6 B6
                  go_upto_region 19 with fail
                  generalize (World.setCell (World.setCell (World.setCell w6 _ _) _ _) _ _) = E at HE ⊢
                  obtain ⟨e1, e2, e3, e4, e5, e6⟩ := HE.out
                  have E1 := Lib.hid e1
                  have E2 := Lib.hid e2
                  have E3 := Lib.hid e3
                  have E4 := Lib.hid e4
                  have E5 := Lib.hid e5
                  have E6 := Lib.hid e6
                  clear t0 t1 t2 f0 f1 f2 e1 e2 e3 e4 e5 e6 HE W7 B7
                  obtain ⟨x0, x1, x2, -⟩ := E3.out
                  obtain ⟨y0, y1, y2, -⟩ := E4.out
                  have HMM := Lib.hid (HMk.out E _ _ E1.out E2.out)
                  clear HMk
                  go_wp2_with fail
                  (with_reducible refine HMM.out.mono ?_)
                  rintro e w8 ⟨u8, rfl, hu8, hB8⟩
                  have HNN := Lib.hid (HNm.out w8 u8 hu8)
                  have W8 := Lib.hid (E5.out.keep hB8)
                  have B8 := Lib.hid (E6.out.trans (hB8.mono E6.out.size))
                  clear hB8 HMM HNm hu8 x0 x1 x2 y0 y1 y2
                  go_wp2_with fail
                  (with_reducible refine HNN.out.mono ?_)
                  rintro e w9 ⟨rfl, hB9⟩
                  have W9 := Lib.hid (W8.out.keep hB9)
                  have B9 := Lib.hid (B8.out.trans (hB9.mono B8.out.size))
                  clear hB9 HNN W8 B8
                  obtain ⟨⟨p1, p2, p3, p4⟩, p5, p6, p7⟩ := W9.out
                  go_wp2_with fail
                  exact bodyPost_ret (v := .tuple #[.agg #[.int .i64 r1, .int .i64 r2], .int .i64 r3]) (by simp [results, Tryz.results8, go_sem, *]) rfl ⟨rfl, (B9.out.setCell (Nat.le_refl _) _).setCell (Nat.le_refl _) _⟩

theorem rparse_any (s : ByteArray) (w : World) (hs : s.size ≤ 400) :
    Calls Tryz.prog 8 #[.string s] w (Rt (readT s.data.toList).1 (readT s.data.toList).2.1 (readT s.data.toList).2.2 w) := rparse_walk s w hs _ _ _ rfl

end Go.Proofs.YtfhmhkbjcccejaaGreatDoor

namespace Go.Proofs.YtfhmhkbjcccejaaGreatDoor
open Go.RowKit

theorem body_digits (D r : List UInt8) (hD : D.all isDg = true) (h0 : D ≠ []) : bodyS (D ++ r) = D ++ r ∧ minusS (D ++ r) = false := by
  cases D with
  | nil => exact absurd rfl h0
  | cons c D =>
    rw [List.all_cons, Bool.and_eq_true] at hD
    have hc := isDg_le hD.1
    have h45 : c ≠ 45 := by
      intro e
      subst e
      exact absurd hc.1 (by decide)
    constructor
    · unfold bodyS
      split
      · rename_i e; injection e with e; exact absurd e h45
      · rfl
    · unfold minusS
      split
      · rename_i e; injection e with e; exact absurd e h45
      · rfl

theorem body_itoa (t : Int) (r : List UInt8) : bodyS (Lib.itoa t ++ r) = Lib.decDigits t.natAbs ++ r ∧ minusS (Lib.itoa t ++ r) = decide (t < 0) := by
  obtain ⟨h1, h2, -⟩ := decDigits_spec t.natAbs
  unfold Lib.itoa
  by_cases h : t < 0
  · rw [if_pos h, decide_eq_true h]
    exact ⟨rfl, rfl⟩
  · rw [if_neg h, decide_eq_false h, show t.toNat = t.natAbs from by omega]
    exact body_digits _ _ h1 h2

theorem isDec_digits (u : Nat) : isDec (Lib.decDigits u) = true := by
  obtain ⟨h1, h2, -⟩ := decDigits_spec u
  unfold isDec
  rw [h1]
  cases h : Lib.decDigits u with
  | nil => exact absurd h h2
  | cons a b => rfl

theorem textN_len {t l : Int} (h : vld t l = true) : (textN t l).length ≤ 41 := by
  obtain ⟨h1, h2, -⟩ := vld_abs h
  have a := itoa_len h1
  have b := itoa_len h2
  unfold textN
  split
  · omega
  · rw [List.length_append, List.length_cons]; omega

theorem cut_textN (t l : Int) (h : 1 ≤ l) : (cutS (bodyS (textN t l))).1 = Lib.decDigits t.natAbs ∧ isDec (((cutS (bodyS (textN t l))).2).getD [49]) = true ∧ decV 0 (((cutS (bodyS (textN t l))).2).getD [49]) = l.toNat ∧ minusS (textN t l) = decide (t < 0) := by
  obtain ⟨d1, d2, d3⟩ := decDigits_spec t.natAbs
  unfold textN
  by_cases h1 : l = 1
  · rw [if_pos h1]
    have hb := body_itoa t []
    rw [List.append_nil, List.append_nil] at hb
    rw [hb.1, hb.2, cutS_none (dg_no_slash d1)]
    refine ⟨rfl, ?_, ?_, rfl⟩
    · show isDec [49] = true
      decide
    · show decV 0 [49] = l.toNat
      rw [h1]
      decide
  · rw [if_neg h1]
    have hb := body_itoa t (47 :: Lib.itoa l)
    rw [hb.1, hb.2, cutS_some (dg_no_slash d1)]
    have hl : Lib.itoa l = Lib.decDigits l.toNat := by
      unfold Lib.itoa
      rw [if_neg (by omega)]
    rw [hl]
    exact ⟨rfl, isDec_digits _, (decDigits_spec _).2.2, rfl⟩

theorem readT_textN {t l : Int} (h : vld t l = true) : readT (textN t l) = (t, l, 0) := by
  have hl := textN_len h
  obtain ⟨h1, h2, h3⟩ := vld_abs h
  obtain ⟨c1, c2, c3, c4⟩ := cut_textN t l h3
  unfold readT
  simp only [c1, c2, c3, c4, isDec_digits, (decDigits_spec t.natAbs).2.2]
  rw [if_neg (by simp; omega), if_neg (by omega)]
  obtain ⟨x, e1, e2, e3⟩ := vld_rat h
  have e4 : (if decide (t < 0) = true then -((t.natAbs : Nat) : Int) else ((t.natAbs : Nat) : Int)) = t := by
    by_cases k : t < 0
    · rw [if_pos (decide_eq_true k)]; omega
    · rw [if_neg (by simpa using k)]; omega
  rw [e4]
  have e5 : mkRat t l.toNat = x := e3
  rw [e5]
  unfold outT
  rw [if_pos ⟨by rw [e1]; exact h1, (show x.den ≤ 1152921504606846976 from by omega)⟩, e1, e2]

set_option maxRecDepth 100000 in
set_option maxHeartbeats 4000000 in
theorem rprint_bad (t l : Int) (w : World) (h : vld t l = false) :
    Calls Tryz.prog 6 #[.agg #[.int .i64 t, .int .i64 l]] w fun e w' => e = .returned (.tuple #[.string ⟨#[]⟩, .int .i64 1]) ∧ Below w.heap.size w w' := by
  have HV : Hid (∀ wx, Calls Tryz.prog 13 #[.agg #[.int .i64 t, .int .i64 l]] wx fun e w' => e = .returned (.bool false) ∧ Below wx.heap.size wx w') := fun wx => by
    have := rvalid_any t l wx
    rw [h] at this
    exact this
  clear h
  go_enter Tryz.func6, Tryz.ntmps6
  go_wp2_with fail
  (with_reducible refine (HV.out _).mono ?_)
  rintro e w1 ⟨rfl, hB⟩
  have HB := Lib.hid ((below_alloc' w _).trans (hB.mono (below_alloc' w _).size))
  clear hB
  go_wp2_with fail
  go_ret2
  exact ⟨rfl, HB.out⟩

set_option maxRecDepth 100000 in
set_option maxHeartbeats 4000000 in
theorem rprint_ok (t l : Int) (w : World) (h : vld t l = true) :
    Calls Tryz.prog 6 #[.agg #[.int .i64 t, .int .i64 l]] w fun e w' => e = .returned (.tuple #[.string ⟨(textN t l).toArray⟩, .int .i64 0]) ∧ Below w.heap.size w w' := by
  have HV : Hid (∀ wx, Calls Tryz.prog 13 #[.agg #[.int .i64 t, .int .i64 l]] wx fun e w' => e = .returned (.bool true) ∧ Below wx.heap.size wx w') := fun wx => by
    have := rvalid_any t l wx
    rw [h] at this
    exact this
  obtain ⟨h1, h2, -⟩ := vld_abs h
  have HW : Hid (∀ wx, Calls Tryz.prog 14 #[.agg #[.int .i64 t, .int .i64 l]] wx fun e w' => e = .returned (.string ⟨(textN t l).toArray⟩) ∧ Below wx.heap.size wx w') := fun wx => write_any t l h1 h2 (by have := itoa_len h1; omega) (by have := itoa_len h2; omega) wx
  generalize (⟨(textN t l).toArray⟩ : ByteArray) = S at *
  clear h h1 h2
  go_enter Tryz.func6, Tryz.ntmps6
  go_upto_region 1 with fail
  generalize hX : w.alloc _ = X
  obtain ⟨k0, k1⟩ : X.cell? ⟨w.heap.size, 0, none⟩ = some (.int .i64 t) ∧ X.cell? ⟨w.heap.size, 1, none⟩ = some (.int .i64 l) := by
    subst hX
    simp [go_sem]
  have HwX : Hid (Below w.heap.size w X) := by
    subst hX
    exact below_alloc' w _
  have zX : w.heap.size < X.heap.size := by
    subst hX
    simp
  clear hX
  go_wp2_with fail
  (with_reducible refine (HV.out X).mono ?_)
  rintro e w1 ⟨rfl, hB1⟩
  have j0 := (hB1.cell (p := ⟨w.heap.size, 0, none⟩) zX).trans k0
  have j1 := (hB1.cell (p := ⟨w.heap.size, 1, none⟩) zX).trans k1
  have B1 := Lib.hid (HwX.out.trans (hB1.mono HwX.out.size))
  clear hB1 k0 k1
  go_wp2_with fail
  (with_reducible refine (HW.out w1).mono ?_)
  rintro e w2 ⟨rfl, hB2⟩
  have B2 := Lib.hid (B1.out.trans (hB2.mono B1.out.size))
  clear hB2 j0 j1
  go_wp2_with fail
  go_ret2
  exact ⟨rfl, B2.out⟩

theorem rprint_any (t l : Int) (w : World) : Calls Tryz.prog 6 #[.agg #[.int .i64 t, .int .i64 l]] w fun e w' => e = .returned (.tuple #[.string ⟨(printT t l).1.toArray⟩, .int .i64 (printT t l).2]) ∧ Below w.heap.size w w' := by
  unfold printT
  cases h : vld t l with
  | false => exact rprint_bad t l w h
  | true => exact rprint_ok t l w h

end Go.Proofs.YtfhmhkbjcccejaaGreatDoor
