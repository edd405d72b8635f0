/- The division of lists of digits of the reference: plain facts, and rows that are written in place. -/
import Derived.Test.YtabaknkjcoibpaaGreatDoorM18
import Derived.Laws.CopyOwn
import Derived.Deep.RegionLawGrows

namespace Go.Proofs.YtabaknkjcoibpaaGreatDoor
open Go.RowKit

/-- The estimate is not too small. -/
theorem est_le {U V : List Nat} {m : Nat} (hU : Dl U) (hul : U.length = m + 2) (hvl : V.length = m + 1) (hv1 : 0 < V.getD m 0) : val U / val V ≤ (U.getD (m + 1) 0 * Bs + U.getD m 0) / V.getD m 0 := by
  have hb := val_lt (hU.take m)
  rw [List.length_take, Nat.min_eq_left (by omega)] at hb
  have e1 : val U = val (U.take m) + Bs ^ m * (U.getD m 0 + Bs * U.getD (m + 1) 0) := by
    rw [val_split U (k := m) (by omega), val_drop (l := U) (k := m) (by omega), val_drop (l := U) (k := m + 1) (by omega), List.drop_of_length_le (by omega : U.length ≤ m + 1 + 1), val_nil, Nat.mul_zero, Nat.add_zero]
  have e2 : Bs ^ m * V.getD m 0 ≤ val V := by
    rw [val_split V (k := m) (by omega), val_drop (l := V) (k := m) (by omega), List.drop_of_length_le (by omega : V.length ≤ m + 1), val_nil, Nat.mul_zero, Nat.add_zero]
    omega
  generalize hT : U.getD m 0 + Bs * U.getD (m + 1) 0 = T at e1
  have hT2 : U.getD (m + 1) 0 * Bs + U.getD m 0 = T := by rw [← hT, Nat.mul_comm]; omega
  rw [hT2, Nat.le_div_iff_mul_le hv1]
  have h1 : val U / val V * val V ≤ val U := Nat.div_mul_le_self _ _
  have h2 : val U / val V * (Bs ^ m * V.getD m 0) ≤ val U / val V * val V := Nat.mul_le_mul_left _ e2
  have h3 : Bs ^ m * (val U / val V * V.getD m 0) < Bs ^ m * (T + 1) := by
    rw [Nat.mul_left_comm, Nat.mul_add, Nat.mul_one]
    omega
  have := Nat.lt_of_mul_lt_mul_left h3
  omega

theorem top_pos {l : List Nat} (hz : Nz l) (h : 0 < l.length) : 0 < l.getD (l.length - 1) 0 := by
  rcases hz with h1 | h1
  · rw [h1] at h; simp at h
  · omega
theorem Nz_of_ge {l : List Nat} (hd : Dl l) {k : Nat} (hl : l.length = k + 1) (h : Bs ^ k ≤ val l) : 0 < l.getD k 0 := by
  rcases Nat.eq_zero_or_pos (l.getD k 0) with h0 | h0
  · have h1 := val_lt (hd.take k)
    rw [List.length_take, Nat.min_eq_left (by omega)] at h1
    have h2 : val l = val (l.take k) := by
      have := val_take_succ l k
      rw [h0, Nat.mul_zero, Nat.add_zero, val_take_all (by omega)] at this
      exact this
    omega
  · exact h0

/-- The factor. -/
theorem fac_pos {t : Nat} (h : t < Bs) : 0 < Bs / (t + 1) := Nat.div_pos (by omega) (by omega)
theorem fac_lt {t : Nat} (h : 0 < t) : Bs / (t + 1) < 1073741824 := by
  rw [← Bs_eq]
  exact Nat.div_lt_self Bs_pos (by omega)
theorem fac_mul {l : List Nat} (hd : Dl l) {m : Nat} (hl : l.length = m + 1) : val l * (Bs / (l.getD m 0 + 1)) < Bs ^ (m + 1) := by
  have hb := val_lt (hd.take m)
  rw [List.length_take, Nat.min_eq_left (by omega)] at hb
  have e : val l = val (l.take m) + Bs ^ m * l.getD m 0 := by
    have := val_take_succ l m
    rw [val_take_all (by omega)] at this
    exact this
  have h1 : val l < Bs ^ m * (l.getD m 0 + 1) := by rw [Nat.mul_add, Nat.mul_one]; omega
  have hf : 0 < Bs / (l.getD m 0 + 1) := fac_pos (hd.getD m)
  have h2 : val l * (Bs / (l.getD m 0 + 1)) < Bs ^ m * (l.getD m 0 + 1) * (Bs / (l.getD m 0 + 1)) := Nat.mul_lt_mul_of_pos_right h1 hf
  have h3 : (l.getD m 0 + 1) * (Bs / (l.getD m 0 + 1)) ≤ Bs := Nat.mul_div_le _ _
  have h4 : Bs ^ m * ((l.getD m 0 + 1) * (Bs / (l.getD m 0 + 1))) ≤ Bs ^ m * Bs := Nat.mul_le_mul_left _ h3
  rw [← Nat.mul_assoc] at h4
  rw [Nat.pow_succ]
  omega

/-- A row that begins with these digits and may be written. -/
def Buf (w : World) (g : Nat) (l : List Nat) : Prop := ∃ cur : Array Value, w.heap[g]? = some (.cells cur 3 (0, 0)) ∧ l.length ≤ cur.size ∧ cur.toList.take l.length = l.map (fun (d : Nat) => .int .i64 (d : Int))
theorem Buf.lt {w : World} {g : Nat} {l : List Nat} (h : Buf w g l) : g < w.heap.size := by obtain ⟨cur, hc, _⟩ := h; exact lt_of_heap hc
theorem Buf.block {w w' : World} {g : Nat} {l : List Nat} (h : Buf w g l) (e : w'.heap[g]? = w.heap[g]?) : Buf w' g l := by obtain ⟨cur, hc, h2⟩ := h; exact ⟨cur, e.trans hc, h2⟩
theorem Buf.keep {w w' : World} {g : Nat} {l : List Nat} (h : Buf w g l) (hb : Below w.heap.size w w') : Buf w' g l := h.block (hb.block g h.lt)
theorem Buf.cell {w : World} {g : Nat} {l : List Nat} (h : Buf w g l) {i : Nat} (hi : i < l.length) : w.cell? ⟨g, i, none⟩ = some (.int .i64 ((l.getD i 0 : Nat) : Int)) := by
  obtain ⟨cur, hc, h1, h2⟩ := h
  rw [cell_of_row w g i cur 3 (0, 0) hc]
  have h3 : (cur.toList.take l.length)[i]? = (l.map (fun (d : Nat) => Value.int .i64 (d : Int)))[i]? := by rw [h2]
  rw [List.getElem?_take, if_pos hi] at h3
  simpa [List.getElem?_map, List.getD_eq_getElem?_getD, List.getElem?_eq_getElem hi] using h3
theorem Buf.lc {w : World} {g : Nat} {l : List Nat} (h : Buf w g l) : Lc w (some ⟨g, 0, none⟩) l := fun _ => by
  obtain ⟨cur, hc, _⟩ := id h
  exact ⟨g, 0, rfl, ⟨cur, (0, 0), hc⟩, fun i hi => by rw [Nat.zero_add]; exact h.cell hi⟩
theorem Buf.take {w : World} {g : Nat} {l : List Nat} (h : Buf w g l) (k : Nat) : Buf w g (l.take k) := by
  obtain ⟨cur, hc, h1, h2⟩ := h
  refine ⟨cur, hc, by rw [List.length_take]; omega, ?_⟩
  rw [List.map_take, ← h2, List.take_take, List.length_take]
theorem Buf.of {w : World} {B : Nat} {v : Value} {l : List Nat} (h : Own w B v l) (hl : 0 < l.length) : ∃ g cap, v = .slice (some ⟨g, 0, none⟩) l.length cap ∧ B ≤ g ∧ Buf w g l ∧ l.length ≤ cap ∧ cap ≤ 9223372036854775807 := by
  rcases h.2 with ⟨_, h0⟩ | ⟨g, cap, cur, h1, h2, h3, h4, h5, h6, h7⟩
  · omega
  · rw [Nat.mul_one] at h6 h7
    exact ⟨g, cap, h1, h2, ⟨cur, h3, by omega, h7⟩, h4, by unfold maxLen at h5; omega⟩

theorem info3s : (Tryz.prog.info? 3).map (·.size) = some 1 := by kernel_rfl

set_option maxRecDepth 100000 in
/-- copy(u[off:], d). -/
theorem wpList_copy_buf {ops : Array Oper} {rest : List Oper} {o : Oper} {a : Act} {w : World} {Q : Exit → Act → World → Prop} (hgd : o.guard = none) (d s : Operand)
    (ho : o.op = .call { callee := .builtin .copy, args := #[d, s], argTypes := #[25, 25] }) (g off dLen dCap : Nat) (ld lu : List Nat) (A : Option Addr) (c : Nat)
    (hd : a.eval d = .slice (some ⟨g, off, none⟩) dLen dCap) (hs : a.eval s = .slice A ld.length c) (hl : Lc w A ld) (hpos : 0 < ld.length) (hle : ld.length ≤ dLen) (hB : Buf w g lu) (hfit : off + ld.length ≤ lu.length)
    (h : ∀ w', Buf w' g (splice lu off ld) → (∀ k, k ≠ g → w'.heap[k]? = w.heap[k]?) → (∀ (B : Nat) (X : World), Below B X w → B ≤ g → Below B X w') → wpList Tryz.prog ops Q rest (a.put o.dst (goInt ld.length)) w') :
    wpList Tryz.prog ops Q (o :: rest) a w := by
  obtain ⟨cur, hc, h1, h2⟩ := hB
  obtain ⟨b, of, rfl, -, hcells⟩ := hl hpos
  have hlen : (ld.map (fun (d : Nat) => Value.int .i64 (d : Int))).length = ld.length := List.length_map _
  refine wpList_copy_own hgd d s 25 25 ho 3 Tryz.underlying25 info3s g off dLen dCap ⟨b, of, none⟩ ld.length c hd hs cur 3 hc (ld.map (fun (d : Nat) => .int .i64 (d : Int))) ?_ ?_ ?_ ?_ ?_
  · rw [hlen]; exact (Nat.min_eq_left hle).symm
  · intro j v hj
    rw [List.getElem?_map] at hj
    rcases Nat.lt_or_ge j ld.length with hjl | hjl
    · rw [List.getElem?_eq_getElem hjl] at hj
      simp at hj
      subst hj
      have := hcells j hjl
      simp only [List.getD_eq_getElem?_getD, List.getElem?_eq_getElem hjl, Option.getD_some] at this
      have hadd : (⟨b, of, none⟩ : Addr).add j = ⟨b, of + j, none⟩ := by unfold Addr.add; split <;> simp_all
      rw [hadd]
      exact this
    · rw [List.getElem?_eq_none hjl] at hj
      cases hj
  · rw [hlen]; omega
  · intro v hv
    obtain ⟨x, _, rfl⟩ := List.mem_map.1 hv
    rfl
  · rw [hlen]
    refine h _ ⟨_, setRow_heap w g _ _ 3 _ hc, ?_, ?_⟩ (fun k hk => setRow_other w g k _ hk) (fun B X hX hBg => below_setRow hX hBg _)
    · rw [length_splice _ _ _ hfit]
      simp only [List.size_toArray, List.length_append, List.length_take, List.length_drop, hlen, Array.length_toList]
      omega
    · have hsp : (splice lu off ld).length = lu.length := length_splice _ _ _ hfit
      rw [hsp]
      unfold splice
      rw [List.map_append, List.map_append, List.map_take, List.map_drop, ← h2]
      have e1 : off ≤ lu.length := by omega
      have e2 : off ≤ cur.toList.length := by rw [Array.length_toList]; omega
      rw [List.take_append, List.take_append, List.length_take, Nat.min_eq_left e2, List.take_take, Nat.min_eq_right e1, hlen, List.take_of_length_le (l := ld.map _) (by rw [hlen]; omega), List.take_take, Nat.min_eq_left e1, List.take_drop]
      rw [show off + ld.length + (lu.length - off - ld.length) = lu.length from by omega]

end Go.Proofs.YtabaknkjcoibpaaGreatDoor
