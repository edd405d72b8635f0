/- Contracts of the library at this program: strings.Trim, CutPrefix and Cut, strconv.Itoa. Print of the program and of the reference. What a text reads as: plain facts on the library's Cut, CutPrefix and Trim. -/
import Derived.Shelf.Strings.Trim
import Derived.Shelf.Small.Utf8
import Derived.Shelf.Small.Bits
import Derived.Shelf.Small.Strs
import Derived.Shelf.Small.Wraps
import Derived.Shelf.Strconv.Itoa0
import Derived.Shelf.Strconv.Itoa1
import Derived.Shelf.LaysM
import Derived.Shelf.Strconv.Itoa2
import Derived.Shelf.Strconv.Itoa3
import Derived.Shelf.Strings.Search1
import Derived.Shelf.Strings.Search2
import Derived.Shelf.Strings.Cut
import Derived.Shelf.Strings.Shaped
import Derived.Shelf.Strings.Prefix
import Derived.Shelf.Strings.Runes
import Derived.Shelf.Strings.AsciiSet
import Derived.Shelf.Unicode.DecodeSlow
import Derived.Test.YtfhmhkbjcccejaaGreatDoorProg
import Derived.Test.YtfhmhkbjcccejaaGreatDoorZ33
import Derived.Test.YtfhmhkbjcccejaaGreatDoorZ27
import Derived.Lib.SmallJoins
import Derived.Deep.CutRange
import Derived.Test.YtfhmhkbjcccejaaGreatDoorZ00
import Derived.Test.YtfhmhkbjcccejaaGreatDoorZ30
import Derived.Lib.TrimByte

namespace Go.Proofs
open Go.Shelf
def Tryz.lays160_ren : Go.Shelf.Ren := ⟨fun | 160 => 18 | 232 => 42 | 231 => 41 | 227 => 43 | 234 => 45 | 233 => 44 | 236 => 47 | 235 => 46 | 228 => 70 | 271 => 73 | 151 => 72 | 197 => 71 | 120 => 101 | 152 => 100 | 260 => 99 | 137 => 119 | 119 => 120 | 224 => 97 | 225 => 96 | 217 => 95 | 266 => 117 | n => n, fun | 9 => 9 | 4 => 4 | 3 => 3 | 5 => 5 | 117 => 76 | 116 => 75 | 0 => 0 | 124 => 79 | 21 => 21 | 105 => 97 | 46 => 104 | 119 => 145 | 139 => 148 | 138 => 147 | n => n, fun | 3 => 2 | 4 => 3 | n => n⟩
theorem Tryz.lays160 : Go.Proofs.Lays.n160 Tryz.prog Tryz.lays160_ren := {
  mixed := by kernel_rfl
  f119 := Tryz.func120.trans (congrArg some (by kernel_rfl))
  f120 := Tryz.func101.trans (congrArg some (by kernel_rfl))
  f137 := Tryz.func119.trans (congrArg some (by kernel_rfl))
  f151 := Tryz.func72.trans (congrArg some (by kernel_rfl))
  f152 := Tryz.func100.trans (congrArg some (by kernel_rfl))
  f160 := Tryz.func18.trans (congrArg some (by kernel_rfl))
  f197 := Tryz.func71.trans (congrArg some (by kernel_rfl))
  f217 := Tryz.func95.trans (congrArg some (by kernel_rfl))
  f224 := Tryz.func97.trans (congrArg some (by kernel_rfl))
  f225 := Tryz.func96.trans (congrArg some (by kernel_rfl))
  f227 := Tryz.func43.trans (congrArg some (by kernel_rfl))
  f228 := Tryz.func70.trans (congrArg some (by kernel_rfl))
  f231 := Tryz.func41.trans (congrArg some (by kernel_rfl))
  f232 := Tryz.func42.trans (congrArg some (by kernel_rfl))
  f233 := Tryz.func44.trans (congrArg some (by kernel_rfl))
  f234 := Tryz.func45.trans (congrArg some (by kernel_rfl))
  f235 := Tryz.func46.trans (congrArg some (by kernel_rfl))
  f236 := Tryz.func47.trans (congrArg some (by kernel_rfl))
  f260 := Tryz.func99.trans (congrArg some (by kernel_rfl))
  f266 := Tryz.func117.trans (congrArg some (by kernel_rfl))
  f271 := Tryz.func73.trans (congrArg some (by kernel_rfl))
  t0 := Tryz.underlying0
  a0 := Tryz.isAgg0
  z0 := Tryz.sizeOf0
  v0 := Tryz.zeroValue0
  t3 := Tryz.underlying3
  a3 := Tryz.isAgg3
  z3 := Tryz.sizeOf3
  v3 := Tryz.zeroValue3
  t4 := Tryz.underlying4
  a4 := Tryz.isAgg4
  z4 := Tryz.sizeOf4
  v4 := Tryz.zeroValue4
  t5 := Tryz.underlying5
  a5 := Tryz.isAgg5
  z5 := Tryz.sizeOf5
  v5 := Tryz.zeroValue5
  t9 := Tryz.underlying9
  a9 := Tryz.isAgg9
  z9 := Tryz.sizeOf9
  v9 := Tryz.zeroValue9
  t21 := Tryz.underlying21
  a21 := Tryz.isAgg21
  z21 := Tryz.sizeOf21
  v21 := Tryz.zeroValue21
  t46 := Tryz.underlying104
  a46 := Tryz.isAgg104
  z46 := Tryz.sizeOf104
  v46 := Tryz.zeroValue104
  t105 := Tryz.underlying97
  a105 := Tryz.isAgg97
  z105 := Tryz.sizeOf97
  v105 := Tryz.zeroValue97
  t116 := Tryz.underlying75
  a116 := Tryz.isAgg75
  z116 := Tryz.sizeOf75
  t117 := Tryz.underlying76
  a117 := Tryz.isAgg76
  z117 := Tryz.sizeOf76
  v117 := Tryz.zeroValue76
  t119 := Tryz.underlying145
  a119 := Tryz.isAgg145
  z119 := Tryz.sizeOf145
  t124 := Tryz.underlying79
  a124 := Tryz.isAgg79
  z124 := Tryz.sizeOf79
  v124 := Tryz.zeroValue79
  t138 := Tryz.underlying147
  a138 := Tryz.isAgg147
  z138 := Tryz.sizeOf147
  v138 := Tryz.zeroValue147
  t139 := Tryz.underlying148
  a139 := Tryz.isAgg148
  z139 := Tryz.sizeOf148
  v139 := Tryz.zeroValue148
  g3 := by kernel_rfl
  g4 := by kernel_rfl }
open Go.RowKit in
theorem Tryz.strings_Trim_one (s : ByteArray) (c : UInt8) (hc : c.toNat < 128) (w : World) (hs : s.size ≤ 9223372036854775807) :
    Calls Tryz.prog 18 #[.string s, .string ⟨#[c]⟩] w fun e w' => e = .returned (.string ⟨(Lib.trimB s.data.toList c).toArray⟩) ∧ (w' = w ∨ w' = w.drew) := Any.strings_Trim_one Tryz.lays160 s c hc w hs
def Tryz.lays103_ren : Go.Shelf.Ren := ⟨fun | 103 => 15 | 210 => 39 | 206 => 68 | n => n, fun | 9 => 9 | 4 => 4 | 24 => 36 | 3 => 3 | n => n, fun | n => n⟩
theorem Tryz.lays103 : Go.Proofs.Lays.n103 Tryz.prog Tryz.lays103_ren := {
  mixed := by kernel_rfl
  f103 := Tryz.func15.trans (congrArg some (by kernel_rfl))
  f206 := Tryz.func68.trans (congrArg some (by kernel_rfl))
  f210 := Tryz.func39.trans (congrArg some (by kernel_rfl))
  t3 := Tryz.underlying3
  a3 := Tryz.isAgg3
  z3 := Tryz.sizeOf3
  v3 := Tryz.zeroValue3
  t4 := Tryz.underlying4
  a4 := Tryz.isAgg4
  z4 := Tryz.sizeOf4
  v4 := Tryz.zeroValue4
  t9 := Tryz.underlying9
  a9 := Tryz.isAgg9
  z9 := Tryz.sizeOf9
  v9 := Tryz.zeroValue9
  t24 := Tryz.underlying36
  a24 := Tryz.isAgg36
  z24 := Tryz.sizeOf36
  v24 := Tryz.zeroValue36 }
open Go.RowKit in
theorem Tryz.strings_CutPrefix (s p : ByteArray) (w : World) :
    Calls Tryz.prog 15 #[.string s, .string p] w fun e w' => e = .returned (.tuple #[.string ⟨(Lib.trimPrefix s.data.toList p.data.toList).toArray⟩, .bool (Lib.hasPrefix s.data.toList p.data.toList)]) ∧ w' = w := Any.strings_CutPrefix Tryz.lays103 s p w
def Tryz.laysM171_ren : Go.Shelf.Ren := ⟨fun | 171 => 12 | 243 => 34 | 246 => 65 | 283 => 91 | 284 => 92 | 285 => 93 | 286 => 94 | 129 => 113 | 317 => 112 | 318 => 114 | 319 => 115 | 320 => 116 | 337 => 127 | 338 => 128 | n => n, fun | 3 => 3 | 9 => 9 | 2 => 2 | 4 => 4 | 171 => 117 | 0 => 0 | 53 => 83 | 37 => 72 | 5 => 5 | 173 => 120 | 212 => 140 | 51 => 101 | 20 => 20 | 213 => 141 | 46 => 104 | 232 => 156 | 233 => 157 | n => n, fun | 17 => 1 | 18 => 4 | 19 => 5 | n => n⟩
theorem Tryz.laysM171 : Go.Proofs.LaysM.n171 Tryz.prog Tryz.laysM171_ren := {
  mixed := by kernel_rfl
  f129 := Tryz.func113.trans (congrArg some (by kernel_rfl))
  f171 := Tryz.func12.trans (congrArg some (by kernel_rfl))
  f243 := Tryz.func34.trans (congrArg some (by kernel_rfl))
  f246 := Tryz.func65.trans (congrArg some (by kernel_rfl))
  f283 := Tryz.func91.trans (congrArg some (by kernel_rfl))
  f284 := Tryz.func92.trans (congrArg some (by kernel_rfl))
  f285 := Tryz.func93.trans (congrArg some (by kernel_rfl))
  f286 := Tryz.func94.trans (congrArg some (by kernel_rfl))
  f317 := Tryz.func112.trans (congrArg some (by kernel_rfl))
  f318 := Tryz.func114.trans (congrArg some (by kernel_rfl))
  f319 := Tryz.func115.trans (congrArg some (by kernel_rfl))
  f320 := Tryz.func116.trans (congrArg some (by kernel_rfl))
  f337 := Tryz.func127.trans (congrArg some (by kernel_rfl))
  f338 := Tryz.func128.trans (congrArg some (by kernel_rfl))
  t0 := Tryz.underlying0
  a0 := Tryz.isAgg0
  z0 := Tryz.sizeOf0
  v0 := Tryz.zeroValue0
  t2 := Tryz.underlying2
  a2 := Tryz.isAgg2
  z2 := Tryz.sizeOf2
  v2 := Tryz.zeroValue2
  t3 := Tryz.underlying3
  a3 := Tryz.isAgg3
  z3 := Tryz.sizeOf3
  v3 := Tryz.zeroValue3
  t4 := Tryz.underlying4
  a4 := Tryz.isAgg4
  z4 := Tryz.sizeOf4
  v4 := Tryz.zeroValue4
  t5 := Tryz.underlying5
  a5 := Tryz.isAgg5
  z5 := Tryz.sizeOf5
  v5 := Tryz.zeroValue5
  t9 := Tryz.underlying9
  a9 := Tryz.isAgg9
  z9 := Tryz.sizeOf9
  v9 := Tryz.zeroValue9
  t20 := Tryz.underlying20
  a20 := Tryz.isAgg20
  z20 := Tryz.sizeOf20
  v20 := Tryz.zeroValue20
  t37 := Tryz.underlying72
  a37 := Tryz.isAgg72
  z37 := Tryz.sizeOf72
  v37 := Tryz.zeroValue72
  t46 := Tryz.underlying104
  a46 := Tryz.isAgg104
  z46 := Tryz.sizeOf104
  v46 := Tryz.zeroValue104
  t51 := Tryz.underlying101
  a51 := Tryz.isAgg101
  z51 := Tryz.sizeOf101
  v51 := Tryz.zeroValue101
  t53 := Tryz.underlying83
  a53 := Tryz.isAgg83
  z53 := Tryz.sizeOf83
  v53 := Tryz.zeroValue83
  t171 := Tryz.underlying117
  a171 := Tryz.isAgg117
  z171 := Tryz.sizeOf117
  v171 := Tryz.zeroValue117
  t173 := Tryz.underlying120
  a173 := Tryz.isAgg120
  z173 := Tryz.sizeOf120
  v173 := Tryz.zeroValue120
  t212 := Tryz.underlying140
  a212 := Tryz.isAgg140
  z212 := Tryz.sizeOf140
  v212 := Tryz.zeroValue140
  t213 := Tryz.underlying141
  a213 := Tryz.isAgg141
  z213 := Tryz.sizeOf141
  t232 := Tryz.underlying156
  a232 := Tryz.isAgg156
  z232 := Tryz.sizeOf156
  v232 := Tryz.zeroValue156
  t233 := Tryz.underlying157
  a233 := Tryz.isAgg157
  z233 := Tryz.sizeOf157
  v233 := Tryz.zeroValue157
  g17 := by kernel_rfl
  g18 := by kernel_rfl
  g19 := by kernel_rfl
  i0 := by kernel_rfl
  i2 := by kernel_rfl
  i3 := by kernel_rfl
  i4 := by kernel_rfl
  i5 := by kernel_rfl
  i9 := by kernel_rfl
  i20 := by kernel_rfl
  i37 := by kernel_rfl
  i46 := by kernel_rfl
  i51 := by kernel_rfl
  i53 := by kernel_rfl
  i171 := by kernel_rfl
  i173 := by kernel_rfl
  i212 := by kernel_rfl
  i232 := by kernel_rfl
  i233 := by kernel_rfl
  m17 := by kernel_rfl
  m18 := by kernel_rfl
  m19 := by kernel_rfl }
open Go.RowKit Go.Sort Go.Lib in
theorem Tryz.strconv_Itoa (n : Int) (h0 : -9223372036854775808 ≤ n) (h1 : n ≤ 9223372036854775807) (w : World) (htab : Lib.TabIs Tryz.prog w "internal/strconv.uint64pow10" .u64 Lib.pow10Tab) :
    Calls Tryz.prog 12 #[.int .i64 n] w fun e w' => e = .returned (.string ⟨(Lib.itoa n).toArray⟩) ∧ ∃ k os, w' = grow (w.drewN k) os := Any.strconv_Itoa Tryz.laysM171 n h0 h1 w htab
def Tryz.lays145_ren : Go.Shelf.Ren := ⟨fun | 145 => 16 | 220 => 40 | 219 => 69 | 217 => 95 | 225 => 96 | 224 => 97 | 267 => 98 | 266 => 117 | 314 => 118 | n => n, fun | 9 => 9 | 4 => 4 | 59 => 38 | 3 => 3 | 5 => 5 | 46 => 104 | 146 => 137 | 51 => 101 | n => n, fun | 1 => 0 | n => n⟩
theorem Tryz.lays145 : Go.Proofs.Lays.n145 Tryz.prog Tryz.lays145_ren := {
  mixed := by kernel_rfl
  f145 := Tryz.func16.trans (congrArg some (by kernel_rfl))
  f217 := Tryz.func95.trans (congrArg some (by kernel_rfl))
  f219 := Tryz.func69.trans (congrArg some (by kernel_rfl))
  f220 := Tryz.func40.trans (congrArg some (by kernel_rfl))
  f224 := Tryz.func97.trans (congrArg some (by kernel_rfl))
  f225 := Tryz.func96.trans (congrArg some (by kernel_rfl))
  f266 := Tryz.func117.trans (congrArg some (by kernel_rfl))
  f267 := Tryz.func98.trans (congrArg some (by kernel_rfl))
  f314 := Tryz.func118.trans (congrArg some (by kernel_rfl))
  t3 := Tryz.underlying3
  a3 := Tryz.isAgg3
  z3 := Tryz.sizeOf3
  v3 := Tryz.zeroValue3
  t4 := Tryz.underlying4
  a4 := Tryz.isAgg4
  z4 := Tryz.sizeOf4
  v4 := Tryz.zeroValue4
  t5 := Tryz.underlying5
  a5 := Tryz.isAgg5
  z5 := Tryz.sizeOf5
  v5 := Tryz.zeroValue5
  t9 := Tryz.underlying9
  a9 := Tryz.isAgg9
  z9 := Tryz.sizeOf9
  v9 := Tryz.zeroValue9
  t46 := Tryz.underlying104
  a46 := Tryz.isAgg104
  z46 := Tryz.sizeOf104
  v46 := Tryz.zeroValue104
  t51 := Tryz.underlying101
  a51 := Tryz.isAgg101
  z51 := Tryz.sizeOf101
  v51 := Tryz.zeroValue101
  t59 := Tryz.underlying38
  a59 := Tryz.isAgg38
  z59 := Tryz.sizeOf38
  v59 := Tryz.zeroValue38
  t146 := Tryz.underlying137
  a146 := Tryz.isAgg137
  z146 := Tryz.sizeOf137
  v146 := Tryz.zeroValue137
  g1 := by kernel_rfl }
open Go.RowKit Go.Lib in
theorem Tryz.strings_Cut (s sep : ByteArray) (m : Int) (w : World) (hs : s.size < 4294967281) (hm : w.cell? ⟨0, 0, none⟩ = some (.int .i64 m)) :
    Calls Tryz.prog 16 #[.string s, .string sep] w fun e w' => e = .returned (.tuple #[.string ⟨(Lib.cut s.data.toList sep.data.toList).1.toArray⟩, .string ⟨(Lib.cut s.data.toList sep.data.toList).2.1.toArray⟩, .bool (Lib.cut s.data.toList sep.data.toList).2.2]) ∧ ∃ n, w' = w.drewN n := Any.strings_Cut Tryz.lays145 s sep m w hs hm
def Tryz.laysM145_ren : Go.Shelf.Ren := ⟨fun | 145 => 16 | 220 => 40 | 219 => 69 | 217 => 95 | 225 => 96 | 224 => 97 | 267 => 98 | 266 => 117 | 314 => 118 | n => n, fun | 9 => 9 | 4 => 4 | 59 => 38 | 3 => 3 | 5 => 5 | 46 => 104 | 146 => 137 | 51 => 101 | n => n, fun | 1 => 0 | n => n⟩
theorem Tryz.laysM145 : Go.Proofs.LaysM.n145 Tryz.prog Tryz.laysM145_ren := {
  mixed := by kernel_rfl
  f145 := Tryz.func16.trans (congrArg some (by kernel_rfl))
  f217 := Tryz.func95.trans (congrArg some (by kernel_rfl))
  f219 := Tryz.func69.trans (congrArg some (by kernel_rfl))
  f220 := Tryz.func40.trans (congrArg some (by kernel_rfl))
  f224 := Tryz.func97.trans (congrArg some (by kernel_rfl))
  f225 := Tryz.func96.trans (congrArg some (by kernel_rfl))
  f266 := Tryz.func117.trans (congrArg some (by kernel_rfl))
  f267 := Tryz.func98.trans (congrArg some (by kernel_rfl))
  f314 := Tryz.func118.trans (congrArg some (by kernel_rfl))
  t3 := Tryz.underlying3
  a3 := Tryz.isAgg3
  z3 := Tryz.sizeOf3
  v3 := Tryz.zeroValue3
  t4 := Tryz.underlying4
  a4 := Tryz.isAgg4
  z4 := Tryz.sizeOf4
  v4 := Tryz.zeroValue4
  t5 := Tryz.underlying5
  a5 := Tryz.isAgg5
  z5 := Tryz.sizeOf5
  v5 := Tryz.zeroValue5
  t9 := Tryz.underlying9
  a9 := Tryz.isAgg9
  z9 := Tryz.sizeOf9
  v9 := Tryz.zeroValue9
  t46 := Tryz.underlying104
  a46 := Tryz.isAgg104
  z46 := Tryz.sizeOf104
  v46 := Tryz.zeroValue104
  t51 := Tryz.underlying101
  a51 := Tryz.isAgg101
  z51 := Tryz.sizeOf101
  v51 := Tryz.zeroValue101
  t59 := Tryz.underlying38
  a59 := Tryz.isAgg38
  z59 := Tryz.sizeOf38
  v59 := Tryz.zeroValue38
  t146 := Tryz.underlying137
  a146 := Tryz.isAgg137
  z146 := Tryz.sizeOf137
  v146 := Tryz.zeroValue137
  g1 := by kernel_rfl
  i3 := by kernel_rfl
  i4 := by kernel_rfl
  i5 := by kernel_rfl
  i9 := by kernel_rfl
  i46 := by kernel_rfl
  i51 := by kernel_rfl
  i59 := by kernel_rfl
  i146 := by kernel_rfl
  m1 := by kernel_rfl
  s1_3 := fun w h => Go.Proofs.cell_of_shapedOpen_int (zero := #[.int .i64 0]) (t := 3) h (of_decide_eq_true (by kernel_rfl)) (by kernel_rfl) rfl (by kernel_rfl) (by kernel_rfl) Tryz.underlying3 }
end Go.Proofs

namespace Go.Proofs.YtfhmhkbjcccejaaGreatDoor
open Go.RowKit

/-- The library's table of powers lies where its text lays it. -/
def Tab (w : World) : Prop := Lib.TabIs Tryz.prog w "internal/strconv.uint64pow10" .u64 Lib.pow10Tab

/-- What Print answers. -/
def printT (t l : Int) : List UInt8 × Int := if vld t l then (textN t l, 0) else ([], 1)

theorem vld_abs {t l : Int} (h : vld t l = true) : t.natAbs ≤ 1152921504606846976 ∧ l.natAbs ≤ 1152921504606846976 ∧ 1 ≤ l := by
  simp [vld] at h
  omega

theorem itoa_len {n : Int} (h : n.natAbs ≤ 1152921504606846976) : (Lib.itoa n).length ≤ 20 := by
  unfold Lib.itoa
  split
  · rw [List.length_cons]
    have := decDigits_len h
    omega
  · have := decDigits_len (u := n.toNat) (by omega)
    omega

theorem string_size (l : List UInt8) : (⟨l.toArray⟩ : ByteArray).size = l.length := by
  show l.toArray.size = _
  exact List.size_toArray

set_option maxRecDepth 100000 in
set_option maxHeartbeats 4000000 in
theorem print_bad (t l : Int) (w : World) (h : vld t l = false) :
    Calls Tryz.prog 5 #[.agg #[.int .i64 t, .int .i64 l]] w fun e w' => e = .returned (.tuple #[.string ⟨#[]⟩, .int .i64 1]) ∧ Below w.heap.size w w' := by
  have HV : Hid (∀ wx, Calls Tryz.prog 11 #[.agg #[.int .i64 t, .int .i64 l]] wx fun e w' => e = .returned (.bool false) ∧ Below wx.heap.size wx w') := fun wx => by
    have := valid_any t l wx
    rw [h] at this
    exact this
  clear h
  go_enter Tryz.func5, Tryz.ntmps5
  go_wp2_with fail
  (with_reducible refine (HV.out _).mono ?_)
  rintro e w1 ⟨rfl, hB⟩
  have HB := Lib.hid ((below_alloc' w _).trans (hB.mono (below_alloc' w _).size))
  clear hB
  go_wp2_with fail
  go_ret2
  exact ⟨rfl, HB.out⟩

theorem globTab : ∃ g, Tryz.prog.globalNamed "internal/strconv.uint64pow10" = some g := by
  have h : (Tryz.prog.globalNamed "internal/strconv.uint64pow10").isSome = true := by kernel_rfl
  exact Option.isSome_iff_exists.1 h
theorem Tab.keep {w w' : World} (h : Tab w) (hb : Below w.heap.size w w') : Tab w' := by
  obtain ⟨g, hg⟩ := globTab
  exact Joins.tab_stays hg h hb (Nat.le_refl _)

theorem itoaP (n : Int) (h : n.natAbs ≤ 1152921504606846976) (w : World) (htab : Tab w) : Calls Tryz.prog 12 #[.int .i64 n] w fun e w' => e = .returned (.string ⟨(Lib.itoa n).toArray⟩) ∧ Below w.heap.size w w' := by
  refine (Tryz.strconv_Itoa n (by omega) (by omega) w htab).mono ?_
  rintro e w' ⟨rfl, k, os, rfl⟩
  refine ⟨rfl, rfl, rfl, rfl, ?_, fun j hj => ?_⟩
  · show w.heap.size ≤ (w.heap ++ os).size
    rw [Array.size_append]
    omega
  · show (w.heap ++ os)[j]? = _
    rw [Array.getElem?_append_left hj]

set_option maxRecDepth 100000 in
set_option maxHeartbeats 4000000 in
theorem print_ok (t l : Int) (w : World) (h : vld t l = true) (htab : Tab w) :
    Calls Tryz.prog 5 #[.agg #[.int .i64 t, .int .i64 l]] w fun e w' => e = .returned (.tuple #[.string ⟨(textN t l).toArray⟩, .int .i64 0]) ∧ Below w.heap.size w w' := by
  have HV : Hid (∀ wx, Calls Tryz.prog 11 #[.agg #[.int .i64 t, .int .i64 l]] wx fun e w' => e = .returned (.bool true) ∧ Below wx.heap.size wx w') := fun wx => by
    have := valid_any t l wx
    rw [h] at this
    exact this
  obtain ⟨h1, h2, -⟩ := vld_abs h
  have HT : Hid (∀ wx, Below w.heap.size w wx → Calls Tryz.prog 12 #[.int .i64 t] wx fun e w' => e = .returned (.string ⟨(Lib.itoa t).toArray⟩) ∧ Below wx.heap.size wx w') := fun wx hx => itoaP t h1 wx (htab.keep hx)
  have HL : Hid (∀ wx, Below w.heap.size w wx → Calls Tryz.prog 12 #[.int .i64 l] wx fun e w' => e = .returned (.string ⟨(Lib.itoa l).toArray⟩) ∧ Below wx.heap.size wx w') := fun wx hx => itoaP l h2 wx (htab.keep hx)
  have s1 : (⟨(Lib.itoa t).toArray⟩ : ByteArray).size ≤ 20 := by rw [string_size]; exact itoa_len h1
  have s2 : (⟨(Lib.itoa l).toArray⟩ : ByteArray).size ≤ 20 := by rw [string_size]; exact itoa_len h2
  have hE : Hid ((⟨(textN t l).toArray⟩ : ByteArray) = if l = 1 then ⟨(Lib.itoa t).toArray⟩ else (⟨(Lib.itoa t).toArray⟩ : ByteArray) ++ ((⟨#[47]⟩ : ByteArray) ++ ⟨(Lib.itoa l).toArray⟩)) := by
    show _ = _
    unfold textN
    split
    · rfl
    · have e : Lib.itoa t ++ 47 :: Lib.itoa l = Lib.itoa t ++ ([47] ++ Lib.itoa l) := rfl
      rw [e, ← str_append, ← str_append]
  rw [hE.out]
  generalize (⟨(Lib.itoa t).toArray⟩ : ByteArray) = S at *
  generalize (⟨(Lib.itoa l).toArray⟩ : ByteArray) = T at *
  generalize hR : (if l = 1 then S else S ++ ((⟨#[47]⟩ : ByteArray) ++ T)) = R
  clear hE h h1 h2 htab
  go_enter Tryz.func5, Tryz.ntmps5
  go_upto_region 1 with fail
  generalize hX : w.alloc _ = X
  obtain ⟨k0, k1⟩ : X.cell? ⟨w.heap.size, 0, none⟩ = some (.int .i64 t) ∧ X.cell? ⟨w.heap.size, 1, none⟩ = some (.int .i64 l) := by
    subst hX
    simp [go_sem]
  have HwX : Hid (Below w.heap.size w X) := by
    subst hX
    exact below_alloc' w _
  have zX : w.heap.size < X.heap.size := by
    subst hX
    simp
  clear hX
  go_wp2_with fail
  (with_reducible refine (HV.out X).mono ?_)
  rintro e w1 ⟨rfl, hB1⟩
  have j0 := (hB1.cell (p := ⟨w.heap.size, 0, none⟩) zX).trans k0
  have j1 := (hB1.cell (p := ⟨w.heap.size, 1, none⟩) zX).trans k1
  have z1 := Nat.lt_of_lt_of_le zX hB1.size
  have B1 := Lib.hid (HwX.out.trans (hB1.mono HwX.out.size))
  clear hB1 k0 k1
  go_wp2_with fail
  (with_reducible refine (HT.out w1 B1.out).mono ?_)
  rintro e w2 ⟨rfl, hB2⟩
  have i0 := (hB2.cell (p := ⟨w.heap.size, 0, none⟩) z1).trans j0
  have i1 := (hB2.cell (p := ⟨w.heap.size, 1, none⟩) z1).trans j1
  have B2 := Lib.hid (B1.out.trans (hB2.mono B1.out.size))
  clear hB2 j0 j1
  by_cases hl : l = 1
  · have hb : (l != 1) = false := by simp [hl]
    rw [if_pos hl] at hR
    subst hR
    clear hl
    go_wp2_with fail
    go_ret2
    exact ⟨rfl, B2.out⟩
  · have hb : (l != 1) = true := by simp [hl]
    rw [if_neg hl] at hR
    subst hR
    clear hl
    have s6 : ¬ 9223372036854775807 < 1 + T.size := by omega
    have s7 : ¬ 9223372036854775807 < S.size + (1 + T.size) := by omega
    clear s1 s2
    go_wp2_with fail
    (with_reducible refine (HL.out w2 B2.out).mono ?_)
    rintro e w3 ⟨rfl, hB3⟩
    have B3 := Lib.hid (B2.out.trans (hB3.mono B2.out.size))
    clear hB3 i0 i1
    go_wp2_with fail
    go_ret2
    exact ⟨rfl, B3.out⟩

theorem print_any (t l : Int) (w : World) (htab : Tab w) : Calls Tryz.prog 5 #[.agg #[.int .i64 t, .int .i64 l]] w fun e w' => e = .returned (.tuple #[.string ⟨(printT t l).1.toArray⟩, .int .i64 (printT t l).2]) ∧ Below w.heap.size w w' := by
  unfold printT
  cases h : vld t l with
  | false => exact print_bad t l w h
  | true => exact print_ok t l w h htab

end Go.Proofs.YtfhmhkbjcccejaaGreatDoor

namespace Go.Proofs.YtfhmhkbjcccejaaGreatDoor
open Go

/-- What a text reads as. -/
def readT (s : List UInt8) : Int × Int × Int :=
  let top := (cutS (bodyS s)).1
  let low := ((cutS (bodyS s)).2).getD [49]
  if !isDec top || !isDec low || decV 0 low == 0 then (0, 0, 4)
  else if s.length > 200 then (0, 0, 3)
  else outT (mkRat (if minusS s then -(decV 0 top : Int) else (decV 0 top : Int)) (decV 0 low))

theorem prefix_body (l : List UInt8) : Lib.trimPrefix l [45] = bodyS l ∧ Lib.hasPrefix l [45] = minusS l := by
  unfold Lib.trimPrefix Lib.hasPrefix
  match l with
  | [] => exact ⟨rfl, rfl⟩
  | c :: l =>
    by_cases h : c = 45
    · subst h
      simp [bodyS, minusS]
    · have e1 : bodyS (c :: l) = c :: l := by
        unfold bodyS
        split
        · rename_i e; injection e with e; exact absurd e h
        · rfl
      have e2 : minusS (c :: l) = false := by
        unfold minusS
        split
        · rename_i e; injection e with e; exact absurd e h
        · rfl
      have e3 : ([45] : List UInt8).isPrefixOf (c :: l) = false := by
        simp [List.isPrefixOf]
        exact fun e => h e.symm
      rw [e1, e2, e3]
      exact ⟨rfl, rfl⟩

theorem index_slash (l : List UInt8) : (if 0 ≤ Lib.index l [47] then (l.take (Lib.index l [47]).toNat, l.drop ((Lib.index l [47]).toNat + 1), true) else (l, [], false)) = ((cutS l).1, ((cutS l).2).getD [], ((cutS l).2).isSome) := by
  induction l with
  | nil => rfl
  | cons c l ih =>
    unfold Lib.index cutS
    by_cases h : c = 47
    · subst h
      simp [List.isPrefixOf]
    · have e3 : ([47] : List UInt8).isPrefixOf (c :: l) = false := by
        simp [List.isPrefixOf]
        exact fun e => h e.symm
      rw [e3, if_neg h]
      have hge := Lib.index_ge l [47]
      generalize Lib.index l [47] = i at ih hge
      by_cases hi : 0 ≤ i
      · rw [if_pos hi] at ih
        simp only [Prod.mk.injEq] at ih
        obtain ⟨n, rfl⟩ := Int.eq_ofNat_of_zero_le hi
        have hne : ((n : Int) == -1) = false := by rw [beq_eq_false_iff_ne]; omega
        have hp : (0 : Int) ≤ (n : Int) + 1 := by omega
        have ht : ((n : Int) + 1).toNat = n + 1 := by omega
        simp only [hne, if_pos hp, ht, if_neg (show ¬ (false = true) from by simp)]
        simp only [Int.toNat_natCast] at ih
        simp only [List.take_succ_cons, List.drop_succ_cons]
        rw [ih.1, ih.2.1, ← ih.2.2]
      · rw [if_neg hi] at ih
        simp only [Prod.mk.injEq] at ih
        have hi1 : i = -1 := by omega
        subst hi1
        simp
        exact ⟨ih.1, ih.2.1.symm, by simpa using ih.2.2⟩

theorem cut_slash (l : List UInt8) : Lib.cut l [47] = ((cutS l).1, ((cutS l).2).getD [], ((cutS l).2).isSome) := index_slash l

theorem all_dropWhile (p : UInt8 → Bool) : ∀ L : List UInt8, (∀ x ∈ L.dropWhile p, p x = true) → ∀ x ∈ L, p x = true
  | [], _, x, hx => by cases hx
  | a :: L, h, x, hx => by
    rw [List.dropWhile_cons] at h
    by_cases ha : p a = true
    · rw [if_pos ha] at h
      rcases List.mem_cons.1 hx with e | e
      · rw [e]; exact ha
      · exact all_dropWhile p L h x e
    · rw [if_neg ha] at h
      exact absurd (h a (by simp)) ha

theorem dropWhile_nil (p : UInt8 → Bool) : ∀ L : List UInt8, (∀ x ∈ L, p x = true) → L.dropWhile p = []
  | [], _ => rfl
  | a :: L, h => by
    rw [List.dropWhile_cons, if_pos (h a (by simp))]
    exact dropWhile_nil p L fun x hx => h x (by simp [hx])

theorem trim_nil (l : List UInt8) (c : UInt8) : Lib.trimB l c = [] ↔ ∀ x ∈ l, (x == c) = true := by
  unfold Lib.trimB Lib.trimLeftB Lib.trimRightB
  constructor
  · intro h x hx
    have h1 := all_dropWhile (· == c) ((l.reverse.dropWhile (· == c)).reverse) (by rw [h]; intro x hx; cases hx)
    have h2 := all_dropWhile (· == c) l.reverse (fun x hx => h1 x (by simpa using hx))
    exact h2 x (by simpa using hx)
  · intro h
    rw [dropWhile_nil (· == c) l.reverse (fun x hx => h x (by simpa using hx))]
    rfl

theorem is48 (c : UInt8) : (c == 48) = true ↔ c.toNat = 48 := by
  rw [beq_iff_eq]
  constructor
  · intro e; subst e; decide
  · intro e; exact UInt8.toNat_inj.1 (e.trans (by decide))

theorem decV_zero : ∀ (l : List UInt8), l.all isDg = true → ∀ a, (decV a l = 0 ↔ a = 0 ∧ ∀ x ∈ l, (x == 48) = true)
  | [], _, a => ⟨fun h => ⟨h, fun x hx => by cases hx⟩, fun h => h.1⟩
  | c :: l, h, a => by
    rw [List.all_cons, Bool.and_eq_true] at h
    have hc := isDg_le h.1
    have ih := decV_zero l h.2 (a * 10 + (c.toNat - 48))
    show decV (a * 10 + (c.toNat - 48)) l = 0 ↔ _
    rw [ih]
    have e := is48 c
    constructor
    · rintro ⟨h1, h2⟩
      have h3 : c.toNat = 48 := by omega
      refine ⟨by omega, fun x hx => ?_⟩
      rcases List.mem_cons.1 hx with e1 | e1
      · rw [e1]; exact e.2 h3
      · exact h2 x e1
    · rintro ⟨h1, h2⟩
      have h3 := e.1 (h2 c List.mem_cons_self)
      exact ⟨by omega, fun x hx => h2 x (List.mem_cons_of_mem _ hx)⟩

theorem trim_zero {l : List UInt8} (h : isDec l = true) : (Lib.trimB l 48).isEmpty = (decV 0 l == 0) := by
  have ha : l.all isDg = true := (Bool.and_eq_true_iff.1 h).1
  rw [Bool.eq_iff_iff, List.isEmpty_iff, trim_nil, beq_iff_eq, decV_zero l ha]
  simp

theorem cutS_len (l : List UInt8) : (cutS l).1.length ≤ l.length ∧ ∀ k, (cutS l).2 = some k → k.length ≤ l.length := by
  induction l with
  | nil => exact ⟨Nat.le_refl _, fun k h => by cases h⟩
  | cons c l ih =>
    unfold cutS
    split
    · exact ⟨Nat.zero_le _, fun k h => by injection h with h; rw [← h]; exact Nat.le_succ _⟩
    · exact ⟨Nat.succ_le_succ ih.1, fun k h => Nat.le_succ_of_le (ih.2 k h)⟩
theorem bodyS_len (l : List UInt8) : (bodyS l).length ≤ l.length := by
  unfold bodyS
  split
  · exact Nat.le_succ _
  · exact Nat.le_refl _

end Go.Proofs.YtfhmhkbjcccejaaGreatDoor
