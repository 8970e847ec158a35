/-
  What GetText tells; the walks of readText.
-/
import Derived.Test.YtjiihkdnpblilaaDoorNum2
import Derived.Test.YtjiihkdnpblilaaDoorJoin
import Derived.Laws.Strings2
namespace Go.Proofs.YtjiihkdnpblilaaDoor.gett
open Go.RowKit
open Go.Proofs.YtjiihkdnpblilaaDoor

/-- what GetText tells, of what GetNum tells: number n, place q, code c -/
def textOf (s : ByteArray) (n : Int) (q : Nat) (c : Int) : ByteArray × Nat × Int :=
  if c ≠ 0 then (⟨#[]⟩, 0, c)
  else if n < 0 ∨ 8000 < n then (⟨#[]⟩, 0, 3)
  else if s.size < q + n.toNat then (⟨#[]⟩, 0, 4)
  else (s.extract q (q + n.toNat), q + n.toNat, 0)

def tout (T : ByteArray × Nat × Int) : Value := .agg #[.string T.1, .int .i64 (T.2.1 : Int), .int .i64 T.2.2]

/-- a variable of three cells that the call has laid, behind what it calls -/
theorem three {w w1 : World} {a b c : Value} {T : TypeId} (hb : Below (w.alloc (.cells #[a, b, c] T)).heap.size (w.alloc (.cells #[a, b, c] T)) w1) :
    w1.cell? ⟨w.heap.size, 0, none⟩ = some a ∧ w1.cell? ⟨w.heap.size, 1, none⟩ = some b ∧ w1.cell? ⟨w.heap.size, 2, none⟩ = some c ∧
    w1.frozen? ⟨w.heap.size, 0, none⟩ = false ∧ w1.frozen? ⟨w.heap.size, 1, none⟩ = false ∧ w1.frozen? ⟨w.heap.size, 2, none⟩ = false ∧ w.heap.size < w1.heap.size := by
  refine ⟨(hb.cell (p := ⟨w.heap.size, 0, none⟩) (by simp)).trans (by simp), (hb.cell (p := ⟨w.heap.size, 1, none⟩) (by simp)).trans (by simp), (hb.cell (p := ⟨w.heap.size, 2, none⟩) (by simp)).trans (by simp),
    (hb.frozen (p := ⟨w.heap.size, 0, none⟩) (by simp)).trans (by simp), (hb.frozen (p := ⟨w.heap.size, 1, none⟩) (by simp)).trans (by simp), (hb.frozen (p := ⟨w.heap.size, 2, none⟩) (by simp)).trans (by simp), ?_⟩
  have := hb.size
  simp at this
  omega

theorem below3 {w w1 : World} {a b c : Value} {T : TypeId} (hb : Below (w.alloc (.cells #[a, b, c] T)).heap.size (w.alloc (.cells #[a, b, c] T)) w1) : Below w.heap.size w w1 :=
  ((Below.refl w.heap.size w).alloc (Nat.le_refl _) _).trans (hb.mono (by simp))

theorem cut_at (s : ByteArray) (q n : Nat) (h : q + n ≤ s.size) (wx : World) : (Instr.slice 9 (.string s) (some (.int .i64 (q : Int))) (some (.int .i64 ((q : Int) + (n : Int)))) none).run Tryd.prog wx = .ok (.string (s.extract q (q + n))) wx := by
  rw [run_slice_string (w := wx) 9 s .i64 .i64 _ _ Tryd.underlying9 (by omega) (by omega) (by omega), show ((q : Int) + (n : Int)).toNat = q + n by omega, show ((q : Int)).toNat = q by omega]

/-- what readText tells -/
def rout (T : ByteArray × Nat × Int) : Value := .tuple #[.string T.1, .int .i64 (T.2.1 : Int), get.errV T.2.2]

theorem read_code (s : ByteArray) (p n : Int) (q : Nat) (c : Int) (w : World)
    (hc : Hid (∀ W, Calls Tryd.prog 15 #[.string s, .int .i64 p] W fun e w' => e = .returned (.tuple #[.int .i64 n, .int .i64 (q : Int), .iface 54 (.agg #[.int .i64 c])]) ∧ Below W.heap.size W w')) :
    Calls Tryd.prog 21 #[.string s, .int .i64 p] w fun e w' => e = .returned (.tuple #[.string ⟨#[]⟩, .int .i64 0, .iface 54 (.agg #[.int .i64 c])]) ∧ Below w.heap.size w w' := by
  go_enter Tryd.func21, Tryd.ntmps21
  go_wp2_with fail
  refine (hc.out _).mono ?_
  rintro e w1 ⟨rfl, hb⟩
  clear hc
  go_wp2
  go_ret3
  exact ⟨rfl, hb⟩

theorem read_syntax (s : ByteArray) (p n : Int) (q : Nat) (w : World) (hn : n < 0 ∨ 8000 < n)
    (hc : Hid (∀ W, Calls Tryd.prog 15 #[.string s, .int .i64 p] W fun e w' => e = .returned (.tuple #[.int .i64 n, .int .i64 (q : Int), .nilIface]) ∧ Below W.heap.size W w')) :
    Calls Tryd.prog 21 #[.string s, .int .i64 p] w fun e w' => e = .returned (.tuple #[.string ⟨#[]⟩, .int .i64 0, .iface 54 (.agg #[.int .i64 3])]) ∧ Below w.heap.size w w' := by
  rcases Int.lt_or_le n 0 with h1 | h1
  · clear hn
    go_enter Tryd.func21, Tryd.ntmps21
    go_wp2_with fail
    refine (hc.out _).mono ?_
    rintro e w1 ⟨rfl, hb⟩
    clear hc
    go_wp2
    go_ret3
    exact ⟨rfl, hb⟩
  · have h2 : 8000 < n := by omega
    clear hn
    go_enter Tryd.func21, Tryd.ntmps21
    go_wp2_with fail
    refine (hc.out _).mono ?_
    rintro e w1 ⟨rfl, hb⟩
    clear hc
    go_wp2
    go_ret3
    exact ⟨rfl, hb⟩

theorem read_short (s : ByteArray) (p : Int) (n q : Nat) (w : World) (hs : s.size ≤ 8000) (hn : n ≤ 8000) (hq : q ≤ 8000) (h : s.size < q + n)
    (hc : Hid (∀ W, Calls Tryd.prog 15 #[.string s, .int .i64 p] W fun e w' => e = .returned (.tuple #[.int .i64 (n : Int), .int .i64 (q : Int), .nilIface]) ∧ Below W.heap.size W w')) :
    Calls Tryd.prog 21 #[.string s, .int .i64 p] w fun e w' => e = .returned (.tuple #[.string ⟨#[]⟩, .int .i64 0, .iface 54 (.agg #[.int .i64 4])]) ∧ Below w.heap.size w w' := by
  go_enter Tryd.func21, Tryd.ntmps21
  go_wp2_with fail
  refine (hc.out _).mono ?_
  rintro e w1 ⟨rfl, hb⟩
  clear hc
  go_wp2
  go_ret3
  exact ⟨rfl, hb⟩

theorem read_good (s : ByteArray) (p : Int) (n q : Nat) (w : World) (hs : s.size ≤ 8000) (hn : n ≤ 8000) (hq : q ≤ 8000) (h : q + n ≤ s.size)
    (hc : Hid (∀ W, Calls Tryd.prog 15 #[.string s, .int .i64 p] W fun e w' => e = .returned (.tuple #[.int .i64 (n : Int), .int .i64 (q : Int), .nilIface]) ∧ Below W.heap.size W w')) :
    Calls Tryd.prog 21 #[.string s, .int .i64 p] w fun e w' => e = .returned (.tuple #[.string (s.extract q (q + n)), .int .i64 ((q : Int) + (n : Int)), .nilIface]) ∧ Below w.heap.size w w' := by
  have hcut := cut_at s q n h
  have hx : (s.extract q (q + n)).size ≤ 1000000000 := by simp; omega
  generalize s.extract q (q + n) = x at hcut hx ⊢
  go_enter Tryd.func21, Tryd.ntmps21
  go_wp2_with fail
  refine (hc.out _).mono ?_
  rintro e w1 ⟨rfl, hb⟩
  clear hc
  go_wp2_with fail
  refine (join.fresh_any _ _ hx).mono ?_
  rintro e w2 ⟨rfl, hb2⟩
  go_wp2
  go_ret3
  exact ⟨rfl, hb.trans (hb2.mono hb.size)⟩
end Go.Proofs.YtjiihkdnpblilaaDoor.gett
