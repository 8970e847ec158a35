/-
  The walks of PutNum, the specification's and the program's: each answers the number's bytes.
-/
import Derived.Test.YtjiihkdnpblilaaDoorRows
import Derived.Test.YtjiihkdnpblilaaDoorNum
import Derived.WalkKit
import Derived.ProofKit
import Derived.WalkLawsBesides
import Derived.Deep.OwnRows
import Derived.Laws.CopyOwn
namespace Go.Proofs.YtjiihkdnpblilaaDoor.put
open Go.RowKit Go.Deep
open Go.Proofs.YtjiihkdnpblilaaDoor

theorem ret_int {k : IntKind} {a b : Int} (h : a = b) : Ending.returned (.int k a) = .returned (.int k b) := by rw [h]
theorem val_int {k : IntKind} {a b : Int} (h : a = b) : Value.int k a = .int k b := by rw [h]
theorem info5 : (Tryd.prog.info? 5).map (fun i => (i.zero, i.size, i.bytes)) = some (some (.int .u8 0), 1, 1) := by kernel_rfl

/-- the bytes of a number -/
def numS (n : Int) : ByteArray := strOfNums (num.encF 9 (num.foldN n))

theorem spec_fold (n : Int) (w : World) (h0 : -9223372036854775808 ≤ n) (h1 : n ≤ 9223372036854775807) :
    Calls Tryd.prog 14 #[.int .i64 n] w fun e w' => e = .returned (.int .u64 (num.foldN n : Nat)) ∧ w' = w := by
  by_cases h : n < 0
  · have H : Hid ((num.foldN n : Int) = 2 * -(n + 1) + 1) := num.fold_neg n h
    go_enter Tryd.func14, Tryd.ntmps14
    go_wp2
    go_ret
    exact ⟨ret_int H.out.symm, rfl⟩
  · have H : Hid ((num.foldN n : Int) = 2 * n) := num.fold_pos n (by omega)
    go_enter Tryd.func14, Tryd.ntmps14
    go_wp2
    go_ret
    exact ⟨ret_int H.out.symm, rfl⟩

theorem arrTen : Tryd.prog.underlying 39 = some (.array (Tryd.prog.arrayLen 39) (Tryd.prog.elem 39)) := by kernel_rfl
theorem lenTen : Tryd.prog.arrayLen 39 = 10 := by kernel_rfl
theorem elemTen : Tryd.prog.elem 39 = 5 := by kernel_rfl
theorem sizeAt8 (W : World) : (sizeOf 5).run Tryd.prog W = .ok 1 W := by
  obtain ⟨i0, hi, _, hz1, _⟩ := info_parts info5
  simp [sizeOf, typeInfo, hi, hz1]
theorem cut_row (g k : Nat) (hk : k ≤ 9) (W : World) : (Instr.sliceAt 39 (.pointer (some ⟨g, 0, none⟩)) none (some (.int .i64 ((k : Int) + 1))) none).run Tryd.prog W = .ok (.slice (some ⟨g, 0, none⟩) (k + 1) 10) W := by
  rw [run_sliceAt_array_h (P := Tryd.prog) W 39 ⟨g, 0, none⟩ arrTen .i64 ((k : Int) + 1) (by omega) (by rw [lenTen]; omega), elemTen, sizeAt8, lenTen]
  simp [Result.andThen, slicedAt, show ((k : Int) + 1).toNat = k + 1 by omega, Addr.add]

/-- a row of bytes that is owned, as a text -/
theorem conv_own {w : World} {base n : Nat} {v : Value} {xs : List Int} (h : w.ownsRow base 5 1 v n (xs.map (Value.int .u8))) :
    (convert 22 9 v).run Tryd.prog w = .ok (.string (strOfNums xs)) w := by
  have hl : xs.length = n := by have := h.1; simpa using this
  rcases h.2 with ⟨rfl, h0⟩ | ⟨g, cap, cur, rfl, _, _, _⟩
  · have e : xs = [] := List.eq_nil_of_length_eq_zero (by omega)
    subst e
    exact run_convert_bytes_nil (P := Tryd.prog) w 22 5 Tryd.underlying22 Tryd.underlying5 0 0 9 Tryd.underlying9
  · refine run_convert_bytes_arg (P := Tryd.prog) w 22 5 Tryd.underlying22 Tryd.underlying5 g 0 n cap xs hl (fun i hi => ?_) 9 Tryd.underlying9
    have := h.cellAt i (by omega)
    rw [Nat.zero_add, this, List.getElem?_map]
    have hi' : i < xs.length := by omega
    simp [List.getD, List.getElem?_eq_getElem hi']

theorem map_snoc (acc : List Int) (x : Int) : acc.map (Value.int .u8) ++ [Value.int .u8 x] = (acc ++ [x]).map (Value.int .u8) := by simp

set_option maxHeartbeats 1000000 in
set_option maxRecDepth 100000 in
theorem spec_put (n : Int) (w : World) (h0 : -9223372036854775808 ≤ n) (h1 : n ≤ 9223372036854775807) :
    Calls Tryd.prog 6 #[.int .i64 n] w fun e w' => e = .returned (.string (numS n)) ∧ Below w.heap.size w w' := by
  obtain ⟨u0, hu0⟩ : ∃ u0, u0 = num.foldN n := ⟨_, rfl⟩
  have hlt := num.fold_lt n h0 h1
  have hcall := fun W => spec_fold n W h0 h1
  unfold numS
  rw [← hu0] at hlt hcall ⊢
  have HC : Hid _ := hcall
  have HLT : Hid _ := hlt
  clear hu0 hcall hlt
  obtain ⟨i0, hi, hz0, hz1, hz2⟩ := info_parts info5
  go_enter Tryd.func6, Tryd.ntmps6
  go_wp2_with (go_at_call 14; refine (HC.out _).mono ?_; rintro e w' ⟨rfl, rfl⟩)
  have hlt := HLT.out
  go_loopw [3, 4] (fun tu tb wr => ∃ (k u : Nat) (acc : List Int), tu = .int .u64 u ∧ (u : Int) ≤ 18446744073709551615 ∧ k ≤ 9 ∧ Hid (num.Inv u0 k u acc) ∧ wr.ownsRow w'.heap.size 5 1 tb k (acc.map (Value.int .u8)) ∧ Below w'.heap.size w' wr) (fun tu _ _ => (intOf tu).toNat)
  case atStart => exact ⟨0, u0, [], rfl, by omega, by omega, num.inv0 u0 hlt, World.ownsRow_made w' #[] 0 (Nat.le_refl _) (by unfold maxLen; omega) rfl, (Below.refl _ _).alloc (Nat.le_refl _) _⟩
  case round =>
    obtain ⟨k, u, acc, rfl, hu, hk, H, hown, hbel⟩ := hrel
    clear HC HLT hlt h0 h1
    by_cases h128 : 128 ≤ u
    · have H2 : Hid (num.Inv u0 (k + 1) (u / 128) (acc ++ [(u : Int) % 128 + 128])) := num.inv_step H.out h128
      have hk9 : k < 9 := num.inv_lt H.out h128
      have hbs := hbel.size
      clear H
      go_wp2_with (at_builtin; refine wpList_append_own _ rfl _ _ 22 rfl w'.heap.size 5 i0 (.int .u8 0) 1 1 Tryd.underlying22 hi hz0 hz1 hz2 rfl (by decide) _ _ _ rfl (hown.alloc _) ⟨wr.heap.size, 0, none⟩ 1 1 [.int .u8 ((u : Int) % 128 + 128)] rfl rfl ?c1 ?c2 ?c3 ?c4 ?c5 ?_)
      case c1 =>
        intro j x hj
        match j, hj with
        | 0, hj => simp at hj; subst hj; simp [Addr.add]
      case c2 => intro x hx; simp at hx; subst hx; rfl
      case c3 => unfold maxLen; omega
      case c4 => omega
      case c5 => simp; omega
      intro v' w1 hown' hgrow _
      rw [map_snoc] at hown'
      have hb2 : Below w'.heap.size w' w1 := (hbel.alloc hbs _).grown hgrow (by simp; omega) (fun g hg => (hown.lt g hg).1)
      clear hgrow hbel hown
      go_wp2
      go_roundw
      case rel => exact ⟨k + 1, u / 128, _, by go_num, by omega, by omega, H2, hown', hb2⟩
      case measure => simp [intOf]; omega
    · have H2 : Hid (acc ++ [(u : Int)] = num.encF 9 u0) := num.inv_end H.out (by omega)
      have hbs := hbel.size
      clear H
      go_wp2_with (at_builtin; refine wpList_append_own _ rfl _ _ 22 rfl w'.heap.size 5 i0 (.int .u8 0) 1 1 Tryd.underlying22 hi hz0 hz1 hz2 rfl (by decide) _ _ _ rfl (hown.alloc _) ⟨wr.heap.size, 0, none⟩ 1 1 [.int .u8 (u : Int)] rfl rfl ?c1 ?c2 ?c3 ?c4 ?c5 ?_)
      case c1 =>
        intro j x hj
        match j, hj with
        | 0, hj => simp at hj; subst hj; simp [Addr.add]
      case c2 => intro x hx; simp at hx; subst hx; rfl
      case c3 => unfold maxLen; omega
      case c4 => omega
      case c5 => simp; omega
      intro v' w1 hown' hgrow _
      rw [map_snoc, H2.out] at hown'
      have hb2 : Below w'.heap.size w' w1 := (hbel.alloc hbs _).grown hgrow (by simp; omega) (fun g hg => (hown.lt g hg).1)
      have hcv := conv_own hown'
      clear hgrow hbel hown hown'
      go_wp2
      go_ret
      exact ⟨rfl, hb2⟩

/-- the row of ten bytes -/
def Row (W : World) (g : Nat) (l : List Value) : Prop := W.heap[g]? = some (.cells l.toArray 39 (0, 0))
theorem Row.cell {W : World} {g : Nat} {l : List Value} (h : Row W g l) (i : Nat) (v : Value) (hi : l[i]? = some v) : W.cell? ⟨g, i, none⟩ = some v := by
  rw [cell_of_row W g i _ 39 (0, 0) h]
  simpa using hi
theorem Row.free {W : World} {g : Nat} {l : List Value} (h : Row W g l) (i : Nat) : W.frozen? ⟨g, i, none⟩ = false := by
  have h' : W.heap[g]? = some (.cells l.toArray 39 (0, 0)) := h
  simp [World.frozen?, h']
theorem Row.put {W : World} {g : Nat} {l : List Value} (h : Row W g l) (i : Nat) (v : Value) : Row (W.setCell ⟨g, i, none⟩ v) g (l.set i v) := by
  have := heap_setCell_same W g i _ 39 v h
  unfold Row
  rw [this]
  simp
theorem take_set {l : List Value} {k : Nat} {v : Value} (h : k < l.length) : (l.set k v).take (k + 1) = l.take k ++ [v] := by
  rw [List.take_succ_eq_append_getElem (by simpa using h), List.take_set_of_le (Nat.le_refl _)]
  simp

theorem conv_row {W : World} {g m : Nat} {l : List Value} {xs : List Int} (h : Row W g l) (hm : xs.length = m) (hl : l.take m = xs.map (Value.int .u8)) :
    (convert 22 9 (.slice (some ⟨g, 0, none⟩) m 10)).run Tryd.prog W = .ok (.string (strOfNums xs)) W := by
  refine run_convert_bytes_arg (P := Tryd.prog) W 22 5 Tryd.underlying22 Tryd.underlying5 g 0 m 10 xs hm (fun i hi => ?_) 9 Tryd.underlying9
  rw [Nat.zero_add]
  apply h.cell
  have e : (l.take m)[i]? = l[i]? := List.getElem?_take_of_lt hi
  rw [← e, hl, List.getElem?_map]
  have hi' : i < xs.length := by omega
  simp [List.getD, List.getElem?_eq_getElem hi']

set_option maxHeartbeats 1000000 in
set_option maxRecDepth 100000 in
theorem impl_pos (n : Int) (w : World) (h0 : 0 ≤ n) (h1 : n ≤ 9223372036854775807) :
    Calls Tryd.prog 5 #[.int .i64 n] w fun e w' => e = .returned (.string (numS n)) ∧ Below w.heap.size w w' := by
  obtain ⟨u0, hu0⟩ : ∃ u0, u0 = num.foldN n := ⟨_, rfl⟩
  have hlt := num.fold_lt n (by omega) h1
  have hx := num.xor_pos n h0 h1
  unfold numS
  rw [← hu0] at hlt hx ⊢
  have HX : Hid _ := hx
  clear hu0 hx
  go_enter Tryd.func5, Tryd.ntmps5
  go_wp2
  go_loopw [3, 5] (fun tu tm wr => ∃ (k u : Nat) (acc : List Int) (l : List Value), tu = .int .u64 u ∧ tm = .int .i64 k ∧ (u : Int) ≤ 18446744073709551615 ∧ k ≤ 9 ∧ Hid (num.Inv u0 k u acc) ∧ Hid (Row wr w.heap.size l) ∧ l.length = 10 ∧ Hid (l.take k = acc.map (Value.int .u8)) ∧ Below w.heap.size w wr) (fun tu _ _ => (intOf tu).toNat)
  case atStart => exact ⟨0, u0, [], _, val_int HX.out, rfl, by omega, by omega, num.inv0 u0 hlt, (MapKept.heap_alloc w _).1, rfl, rfl, (Below.refl _ _).alloc (Nat.le_refl _) _⟩
  case round =>
    obtain ⟨k, u, acc, l, rfl, rfl, hu, hk, H, HR, hl, HT, hbel⟩ := hrel
    clear HX hlt h0 h1
    have hck : wr.cell? ⟨w.heap.size, k, none⟩ = some l[k] := HR.out.cell k _ (List.getElem?_eq_getElem (by omega))
    have hfk : wr.frozen? ⟨w.heap.size, k, none⟩ = false := HR.out.free k
    by_cases h128 : 128 ≤ u
    · have H2 : Hid (num.Inv u0 (k + 1) (u / 128) (acc ++ [(u : Int) % 128 + 128])) := num.inv_step H.out h128
      have hk9 : k < 9 := num.inv_lt H.out h128
      have HB : Hid (bits .or .u8 (bits .and .u64 (u : Int) 127) 128 = (u : Int) % 128 + 128) := num.byte_of u (by omega)
      have ha : bits .and .u64 (u : Int) 127 = (u : Int) % 128 := num.and127 u (by omega)
      have ha0 : 0 ≤ bits .and .u64 (u : Int) 127 := by rw [ha]; omega
      have ha1 : bits .and .u64 (u : Int) 127 ≤ 127 := by rw [ha]; omega
      have HT2 : Hid ((l.set k (.int .u8 (bits .or .u8 (bits .and .u64 (u : Int) 127) 128))).take (k + 1) = (acc ++ [(u : Int) % 128 + 128]).map (Value.int .u8)) := by
        rw [take_set (by omega), HT.out, HB.out, map_snoc]; exact rfl
      clear H ha HT HB
      go_wp2
      go_roundw
      case rel => exact ⟨k + 1, u / 128, _, _, by go_num, by go_num, by omega, by omega, H2, HR.out.put k _, by simp [hl], HT2, hbel.setCell (Nat.le_refl _) _⟩
      case measure => simp [intOf]; omega
    · have H2 : acc ++ [(u : Int)] = num.encF 9 u0 := num.inv_end H.out (by omega)
      have hlen : (num.encF 9 u0).length = k + 1 := by rw [← H2, List.length_append, H.out.len]; rfl
      have hcv := conv_row (HR.out.put k (.int .u8 (u : Int))) hlen (by rw [take_set (by omega), HT.out, map_snoc, H2])
      have hcut := cut_row w.heap.size k hk
      clear H HT HR H2 hlen
      go_wp2
      go_ret
      exact ⟨rfl, hbel.setCell (Nat.le_refl _) _⟩

set_option maxHeartbeats 1000000 in
set_option maxRecDepth 100000 in
theorem impl_neg (n : Int) (w : World) (h0 : -9223372036854775808 ≤ n) (h1 : n < 0) :
    Calls Tryd.prog 5 #[.int .i64 n] w fun e w' => e = .returned (.string (numS n)) ∧ Below w.heap.size w w' := by
  obtain ⟨u0, hu0⟩ : ∃ u0, u0 = num.foldN n := ⟨_, rfl⟩
  have hlt := num.fold_lt n h0 (by omega)
  have hx := num.xor_neg n h0 h1
  unfold numS
  rw [← hu0] at hlt hx ⊢
  have HX : Hid _ := hx
  clear hu0 hx
  go_enter Tryd.func5, Tryd.ntmps5
  go_wp2
  go_loopw [3, 5] (fun tu tm wr => ∃ (k u : Nat) (acc : List Int) (l : List Value), tu = .int .u64 u ∧ tm = .int .i64 k ∧ (u : Int) ≤ 18446744073709551615 ∧ k ≤ 9 ∧ Hid (num.Inv u0 k u acc) ∧ Hid (Row wr w.heap.size l) ∧ l.length = 10 ∧ Hid (l.take k = acc.map (Value.int .u8)) ∧ Below w.heap.size w wr) (fun tu _ _ => (intOf tu).toNat)
  case atStart => exact ⟨0, u0, [], _, val_int HX.out, rfl, by omega, by omega, num.inv0 u0 hlt, (MapKept.heap_alloc w _).1, rfl, rfl, (Below.refl _ _).alloc (Nat.le_refl _) _⟩
  case round =>
    obtain ⟨k, u, acc, l, rfl, rfl, hu, hk, H, HR, hl, HT, hbel⟩ := hrel
    clear HX hlt h0 h1
    have hck : wr.cell? ⟨w.heap.size, k, none⟩ = some l[k] := HR.out.cell k _ (List.getElem?_eq_getElem (by omega))
    have hfk : wr.frozen? ⟨w.heap.size, k, none⟩ = false := HR.out.free k
    by_cases h128 : 128 ≤ u
    · have H2 : Hid (num.Inv u0 (k + 1) (u / 128) (acc ++ [(u : Int) % 128 + 128])) := num.inv_step H.out h128
      have hk9 : k < 9 := num.inv_lt H.out h128
      have HB : Hid (bits .or .u8 (bits .and .u64 (u : Int) 127) 128 = (u : Int) % 128 + 128) := num.byte_of u (by omega)
      have ha : bits .and .u64 (u : Int) 127 = (u : Int) % 128 := num.and127 u (by omega)
      have ha0 : 0 ≤ bits .and .u64 (u : Int) 127 := by rw [ha]; omega
      have ha1 : bits .and .u64 (u : Int) 127 ≤ 127 := by rw [ha]; omega
      have HT2 : Hid ((l.set k (.int .u8 (bits .or .u8 (bits .and .u64 (u : Int) 127) 128))).take (k + 1) = (acc ++ [(u : Int) % 128 + 128]).map (Value.int .u8)) := by
        rw [take_set (by omega), HT.out, HB.out, map_snoc]; exact rfl
      clear H ha HT HB
      go_wp2
      go_roundw
      case rel => exact ⟨k + 1, u / 128, _, _, by go_num, by go_num, by omega, by omega, H2, HR.out.put k _, by simp [hl], HT2, hbel.setCell (Nat.le_refl _) _⟩
      case measure => simp [intOf]; omega
    · have H2 : acc ++ [(u : Int)] = num.encF 9 u0 := num.inv_end H.out (by omega)
      have hlen : (num.encF 9 u0).length = k + 1 := by rw [← H2, List.length_append, H.out.len]; rfl
      have hcv := conv_row (HR.out.put k (.int .u8 (u : Int))) hlen (by rw [take_set (by omega), HT.out, map_snoc, H2])
      have hcut := cut_row w.heap.size k hk
      clear H HT HR H2 hlen
      go_wp2
      go_ret
      exact ⟨rfl, hbel.setCell (Nat.le_refl _) _⟩

theorem impl_put (n : Int) (w : World) (h0 : -9223372036854775808 ≤ n) (h1 : n ≤ 9223372036854775807) :
    Calls Tryd.prog 5 #[.int .i64 n] w fun e w' => e = .returned (.string (numS n)) ∧ Below w.heap.size w w' := by
  by_cases h : n < 0
  · exact impl_neg n w h0 h
  · exact impl_pos n w (by omega) h1
end Go.Proofs.YtjiihkdnpblilaaDoor.put
