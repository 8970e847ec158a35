/-
  The draws of a number and of a text: a number of 64 bits; a text of at most 20001 bytes.
-/
import Derived.Test.YtjiihkdnpblilaaDoorDraws2
import Derived.Deep.OwnRows
namespace Go.Proofs.YtjiihkdnpblilaaDoor.draws
open Go.RowKit Go.Deep
open Go.Proofs.YtjiihkdnpblilaaDoor
set_option linter.unusedVariables false

/-- what a draw of a number leaves -/
def IPost (B : Nat) (x : Option Addr) (len cap : Nat) (w : World) (e : Ending) (w' : World) : Prop :=
  ∃ v : Int, e = .returned (.int .i64 v) ∧ -9223372036854775808 ≤ v ∧ v ≤ 9223372036854775807 ∧ IsSrc w' B x len cap ∧ w.grownBy w' (some B)

def edges : Array Value := #[.int .i64 0, .int .i64 1, .int .i64 (-1), .int .i64 2, .int .i64 1000, .int .i64 1001, .int .i64 2147483648, .int .i64 2147483647, .int .i64 (-2147483648), .int .i64 4611686018427387904, .int .i64 9223372036854775807, .int .i64 (-9223372036854775808), .int .i64 1000000, .int .i64 1000001]
theorem edge_at (k : Nat) (hk : k < 14) : ∃ y : Int, -9223372036854775808 ≤ y ∧ y ≤ 9223372036854775807 ∧ edges[k]? = some (.int .i64 y) := by
  match k, hk with
  | 0, _ => exact ⟨_, by decide, by decide, rfl⟩
  | 1, _ => exact ⟨_, by decide, by decide, rfl⟩
  | 2, _ => exact ⟨_, by decide, by decide, rfl⟩
  | 3, _ => exact ⟨_, by decide, by decide, rfl⟩
  | 4, _ => exact ⟨_, by decide, by decide, rfl⟩
  | 5, _ => exact ⟨_, by decide, by decide, rfl⟩
  | 6, _ => exact ⟨_, by decide, by decide, rfl⟩
  | 7, _ => exact ⟨_, by decide, by decide, rfl⟩
  | 8, _ => exact ⟨_, by decide, by decide, rfl⟩
  | 9, _ => exact ⟨_, by decide, by decide, rfl⟩
  | 10, _ => exact ⟨_, by decide, by decide, rfl⟩
  | 11, _ => exact ⟨_, by decide, by decide, rfl⟩
  | 12, _ => exact ⟨_, by decide, by decide, rfl⟩
  | 13, _ => exact ⟨_, by decide, by decide, rfl⟩

set_option maxHeartbeats 1000000 in
theorem edge_any (B : Nat) (x : Option Addr) (len cap : Nat) (w : World) (hBl : B < w.heap.size) (h : IsSrc w B x len cap) (hby : Byts w x len B) :
    Calls Tryd.prog 22 #[.pointer (some ⟨B, 0, none⟩)] w (IPost B x len cap w) := by
  have hg0 : w.grownBy (w.alloc (.cells edges 2)) (some B) := World.grownBy_alloc w _ _
  have hcall := n_any B x len cap (w.alloc (.cells edges 2)) 14 (IsSrc.other h (World.grownBy_alloc w _ none) hBl (by simp)) (hby.kept hg0) (by omega)
  have HC : Hid _ := hcall
  have HG0 : Hid _ := hg0
  have hrow : (w.alloc (.cells edges 2)).heap[w.heap.size]? = some (.cells edges 2 (0, 0)) := (MapKept.heap_alloc w _).1
  have HR : Hid _ := hrow
  clear hcall hg0 h hby hrow
  go_enter Tryd.func22, Tryd.ntmps22
  go_wp2_with fail
  refine Calls.mono HC.out ?_
  rintro e w1 ⟨v, rfl, hv0, hv1, hs1, hg1⟩
  obtain ⟨k, rfl⟩ := Int.eq_ofNat_of_zero_le hv0
  have hk : k < 14 := by omega
  obtain ⟨y, hy0, hy1, hy⟩ := edge_at k hk
  have hc : w1.cell? ⟨w.heap.size, k, none⟩ = some (.int .i64 y) := by
    rw [cell_of_row w1 w.heap.size k edges 2 (0, 0) ((hg1.block _ (by simp) (by simp; omega)).trans HR.out)]
    exact hy
  have HS1 : Hid (IsSrc w1 B x len cap) := hs1
  have HG1 : Hid (w.grownBy w1 (some B)) := grown_trans HG0.out hg1
  clear hs1 hg1 hv0 hv1 hy HC HG0 HR
  go_wp2
  go_ret
  exact ⟨y, rfl, hy0, hy1, HS1.out, HG1.out⟩

set_option maxHeartbeats 1000000 in
theorem number_any (B : Nat) (x : Option Addr) (len cap : Nat) (w : World) (hBl : B < w.heap.size) (h : IsSrc w B x len cap) (hby : Byts w x len B) :
    Calls Tryd.prog 13 #[.pointer (some ⟨B, 0, none⟩)] w (IPost B x len cap w) := by
  have HC : Hid _ := one_any B x len cap w 4 h hby (by omega)
  have HY : Hid (Byts w x len B) := hby
  clear h hby
  go_enter Tryd.func13, Tryd.ntmps13
  go_wp2_with fail
  refine Calls.mono HC.out ?_
  rintro e w1 ⟨t, rfl, hs1, hg1⟩
  have hB1 : B < w1.heap.size := Nat.lt_of_lt_of_le hBl hg1.size
  have HY1 : Hid (Byts w1 x len B) := HY.out.kept hg1
  have HS1 : Hid (IsSrc w1 B x len cap) := hs1
  have HG1 : Hid (w.grownBy w1 (some B)) := hg1
  clear hs1 hg1 HC HY
  cases t
  · go_wp2_with fail
    refine (n_any B x len cap w1 _ HS1.out HY1.out (by omega)).mono ?_
    rintro e w2 ⟨v, rfl, hv0, hv1, hs2, hg2⟩
    have hv2 : v < 1099511627776 := by omega
    have HS2 : Hid (IsSrc w2 B x len cap) := hs2
    have HG2 : Hid (w.grownBy w2 (some B)) := grown_trans HG1.out hg2
    clear hs2 hg2 hv1
    go_wp2
    go_ret
    exact ⟨_, rfl, by omega, by omega, HS2.out, HG2.out⟩
  · go_wp2_with fail
    refine (edge_any B x len cap w1 hB1 HS1.out HY1.out).mono ?_
    rintro e w2 ⟨v, rfl, hv0, hv1, hs2, hg2⟩
    have HS2 : Hid (IsSrc w2 B x len cap) := hs2
    have HG2 : Hid (w.grownBy w2 (some B)) := grown_trans HG1.out hg2
    clear hs2 hg2
    go_wp2
    go_ret
    exact ⟨v, rfl, hv0, hv1, HS2.out, HG2.out⟩

/-- what DrawPutNum leaves -/
def DNum (w : World) (e : Ending) (w' : World) : Prop := ∃ v : Int, e = .returned (.int .i64 v) ∧ -9223372036854775808 ≤ v ∧ v ≤ 9223372036854775807 ∧ Below w.heap.size w w'
theorem drawPutNum (x : Option Addr) (len cap : Nat) (w : World) (hby : Byts w x len w.heap.size) :
    Calls Tryd.prog 4 #[.slice x len cap] w (DNum w) := by
  have HC : Hid _ := source_any x len cap w hby
  have HY : Hid (Byts w x len w.heap.size) := hby
  clear hby
  go_enter Tryd.func4, Tryd.ntmps4
  go_wp2_with fail
  refine Calls.mono HC.out ?_
  rintro e w1 ⟨rfl, hs1, hb1, hz1⟩
  have HB1 : Hid (Below w.heap.size w w1) := hb1
  have hcall := number_any w.heap.size x len cap w1 hz1 hs1 (HY.out.below hb1 (Nat.le_refl _))
  have HN : Hid _ := hcall
  clear hs1 hb1 hcall HC HY
  go_wp2_with fail
  refine Calls.mono HN.out ?_
  rintro e w2 ⟨v, rfl, hv0, hv1, hs2, hg2⟩
  have HB2 : Hid (Below w.heap.size w w2) := HB1.out.grown hg2 (Nat.le_of_lt hz1) (fun k e => by simp at e; omega)
  clear hs2 hg2
  go_wp2
  go_ret
  exact ⟨v, rfl, hv0, hv1, HB2.out⟩

/-- what DrawPutText leaves -/
def DText (w : World) (e : Ending) (w' : World) : Prop := ∃ t : ByteArray, e = .returned (.string t) ∧ t.size ≤ 20001 ∧ Below w.heap.size w w'

theorem made_zero (n : Nat) : (madeCells #[Value.int .u8 0] n).toList = (List.replicate n (0 : Int)).map (Value.int .u8) := by
  simp only [madeCells, Array.toList_map, Array.toList_range]
  apply List.ext_getElem
  · simp
  · intro i h1 h2
    simp [Nat.mod_one]

/-- a new row of noughts as a text -/
theorem conv_zero (n : Nat) (w : World) : (convert 22 9 (.slice (some ⟨w.heap.size, 0, none⟩) n n)).run Tryd.prog (w.alloc (.cells (madeCells #[.int .u8 0] n) 5)) = .ok (.string (strOfNums (List.replicate n 0))) (w.alloc (.cells (madeCells #[.int .u8 0] n) 5)) := by
  refine run_convert_bytes_arg (P := Tryd.prog) _ 22 5 Tryd.underlying22 Tryd.underlying5 w.heap.size 0 n n (List.replicate n 0) (by simp) (fun i hi => ?_) 9 Tryd.underlying9
  rw [Nat.zero_add, cell_of_row _ w.heap.size i _ 5 (0, 0) (MapKept.heap_alloc w _).1, ← Array.getElem?_toList, made_zero, List.getElem?_map]
  simp [hi]

set_option maxHeartbeats 1000000 in
theorem drawPutText (x : Option Addr) (len cap : Nat) (w : World) (hby : Byts w x len w.heap.size) :
    Calls Tryd.prog 8 #[.slice x len cap] w (DText w) := by
  have HC : Hid _ := source_any x len cap w hby
  have HY : Hid (Byts w x len w.heap.size) := hby
  clear hby
  go_enter Tryd.func8, Tryd.ntmps8
  go_wp2_with fail
  refine Calls.mono HC.out ?_
  rintro e w1 ⟨rfl, hs1, hb1, hz1⟩
  have HB1 : Hid (Below w.heap.size w w1) := hb1
  have HY1 : Hid (Byts w1 x len w.heap.size) := HY.out.below hb1 (Nat.le_refl _)
  have HN : Hid _ := one_any w.heap.size x len cap w1 8 hs1 HY1.out (by omega)
  clear hs1 hb1 HC HY
  go_wp2_with fail
  refine Calls.mono HN.out ?_
  rintro e w2 ⟨t, rfl, hs2, hg2⟩
  have hz2 : w.heap.size < w2.heap.size := Nat.lt_of_lt_of_le hz1 hg2.size
  have HB2 : Hid (Below w.heap.size w w2) := HB1.out.grown hg2 (Nat.le_of_lt hz1) (fun k e => by simp at e; omega)
  have HY2 : Hid (Byts w2 x len w.heap.size) := HY1.out.kept hg2
  have HS2 : Hid (IsSrc w2 w.heap.size x len cap) := hs2
  clear hs2 hg2 HN HB1 HY1
  cases t
  · go_wp2_with fail
    refine (n_any w.heap.size x len cap w2 _ HS2.out HY2.out (by omega)).mono ?_
    rintro e w3 ⟨v, rfl, hv0, hv1, hs3, hg3⟩
    have hv2 : v < 20 := by omega
    have hz3 : w.heap.size < w3.heap.size := Nat.lt_of_lt_of_le hz2 hg3.size
    have HB3 : Hid (Below w.heap.size w w3) := HB2.out.grown hg3 (Nat.le_of_lt hz2) (fun k e => by simp at e; omega)
    have HY3 : Hid (Byts w3 x len w.heap.size) := HY2.out.kept hg3
    have HS3 : Hid (IsSrc w3 w.heap.size x len cap) := hs3
    clear hs3 hg3 hv1 HB2 HY2 HS2
    go_wp2_with fail
    refine (bytes_any w.heap.size x len cap w3 v (by omega) hz3 HS3.out HY3.out).mono ?_
    rintro e w4 ⟨t, rfl, ht, hs4, hg4⟩
    have HT : Hid (t.size = v.toNat) := ht
    have HB4 : Hid (Below w.heap.size w w4) := HB3.out.grown hg4 (Nat.le_of_lt hz3) (fun k e => by simp at e; omega)
    clear hs4 hg4 ht
    go_wp2
    go_ret
    exact ⟨t, rfl, by rw [HT.out]; omega, HB4.out⟩
  · go_wp2_with fail
    refine (n_any w.heap.size x len cap w2 _ HS2.out HY2.out (by omega)).mono ?_
    rintro e w3 ⟨v, rfl, hv0, hv1, hs3, hg3⟩
    obtain ⟨k, rfl⟩ := Int.eq_ofNat_of_zero_le hv0
    have hk : k < 3 := by omega
    have hz3 : w.heap.size < w3.heap.size := Nat.lt_of_lt_of_le hz2 hg3.size
    have HB3 : Hid (Below w.heap.size w w3) := HB2.out.grown hg3 (Nat.le_of_lt hz2) (fun k e => by simp at e; omega)
    have hmk := run_make_row' (P := Tryd.prog) 22 5 (.int .u8 0) 1 Tryd.underlying22 info8 rfl .i64 .i64 (19999 + k) (by omega) (by omega)
    have ec : ((19999 + k : Nat) : Int) = 19999 + (k : Int) := by omega
    rw [ec] at hmk
    have hcv := conv_zero (19999 + k)
    have HT : Hid ((strOfNums (List.replicate (19999 + k) 0)).size ≤ 20001) := by show _ ≤ _; rw [strOfNums_size, List.length_replicate]; omega
    generalize strOfNums (List.replicate (19999 + k) 0) = t at hcv HT
    clear ec hs3 hg3 hv0 hv1 HB2 HY2 HS2
    go_wp2
    go_ret
    exact ⟨t, rfl, HT.out, HB3.out.alloc (Nat.le_of_lt hz3) _⟩
end Go.Proofs.YtjiihkdnpblilaaDoor.draws
