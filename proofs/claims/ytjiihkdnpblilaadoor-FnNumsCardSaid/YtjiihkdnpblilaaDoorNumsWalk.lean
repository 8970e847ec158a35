/-
  The walk of the law FnNums: it answers true at every two rows of bytes.
-/
import Derived.Test.YtjiihkdnpblilaaDoorDraws3
import Derived.Test.YtjiihkdnpblilaaDoorRound2
import Derived.Test.YtjiihkdnpblilaaDoorGetNumS
namespace Go.Proofs.YtjiihkdnpblilaaDoor.nums
open Go.RowKit Go.Deep
open Go.Proofs.YtjiihkdnpblilaaDoor
set_option linter.unusedVariables false

def xy : ByteArray := ⟨#[120, 121]⟩
def zz : ByteArray := ⟨#[122]⟩
def xx : ByteArray := ⟨#[120]⟩

/-- what is told of a number's bytes t -/
structure NumT (n : Int) (t : ByteArray) : Prop where
  put : ∀ W, Calls Tryd.prog 5 #[.int .i64 n] W fun e w' => e = .returned (.string t) ∧ Below W.heap.size W w'
  puts : ∀ W, Calls Tryd.prog 6 #[.int .i64 n] W fun e w' => e = .returned (.string t) ∧ Below W.heap.size W w'
  lo : 1 ≤ t.size
  hi : t.size ≤ 10
  full : ∀ W, get.Laid W → Calls Tryd.prog 7 #[.string (xy ++ t ++ zz), .int .i64 2] W fun e w' => e = .returned (.agg #[.int .i64 n, .int .i64 ((t.size : Int) + 2), .int .i64 0]) ∧ Below W.heap.size W w'
  cut : ∀ W, get.Laid W → Calls Tryd.prog 7 #[.string (t.extract 0 (t.size - 1)), .int .i64 0] W fun e w' => e = .returned (.agg #[.int .i64 0, .int .i64 0, .int .i64 4]) ∧ Below W.heap.size W w'

theorem numT (n : Int) (h0 : -9223372036854775808 ≤ n) (h1 : n ≤ 9223372036854775807) : NumT n (put.numS n) := by
  have hlo := rnd.numS_pos n
  have hhi := text.numS_size n
  refine ⟨fun W => put.impl_put n W h0 h1, fun W => put.spec_put n W h0 h1, hlo, hhi, fun W hL => ?_, fun W hL => ?_⟩
  · have e := rnd.out_num xy zz n h0 h1 (by show 2 + _ + 1 ≤ 8000; omega)
    have c := get.impl_any (xy ++ put.numS n ++ zz) 2 W (by unfold maxLen; simp only [ByteArray.size_append, show xy.size = 2 from rfl, show zz.size = 1 from rfl]; omega) (by omega) hL
    rw [show (2 : Int) = ((xy.size : Nat) : Int) from rfl] at c
    rw [e] at c
    simp only [get.told, rnd.un_num, show xy.size = 2 from rfl] at c
    rw [show ((2 + (put.numS n).size : Nat) : Int) = ((put.numS n).size : Int) + 2 by omega] at c
    exact c
  · have e := rnd.out_cut n h0 h1 (by omega)
    have c := get.impl_any ((put.numS n).extract 0 ((put.numS n).size - 1)) 0 W (by unfold maxLen; simp only [ByteArray.size_extract]; omega) (by omega) hL
    rw [e] at c
    exact c

/-- what is told of a text's bytes p -/
structure TextT (u p : ByteArray) : Prop where
  put : ∀ W, Calls Tryd.prog 9 #[.string u] W fun e w' => e = .returned (.string p) ∧ Below W.heap.size W w'
  puts : ∀ W, Calls Tryd.prog 10 #[.string u] W fun e w' => e = .returned (.string p) ∧ Below W.heap.size W w'
  hi : p.size ≤ 20012
  full : p.size ≠ 0 → p.size + 1 ≤ 8000 → ∀ W, get.Laid W → Calls Tryd.prog 11 #[.string (xx ++ p), .int .i64 1] W fun e w' => e = .returned (.agg #[.string u, .int .i64 ((p.size : Int) + 1), .int .i64 0]) ∧ Below W.heap.size W w'
  cut : p.size ≠ 0 → p.size + 1 ≤ 8000 → ∀ W, get.Laid W → ∃ a b, Calls Tryd.prog 11 #[.string (p.extract 0 (p.size - 1)), .int .i64 0] W fun e w' => e = .returned (.agg #[.string a, .int .i64 b, .int .i64 4]) ∧ Below W.heap.size W w'

theorem textT (u : ByteArray) (hu : u.size ≤ 20001) : TextT u (text.textS u) := by
  have hm : u.size ≤ maxLen := by unfold maxLen; omega
  have hn := text.numS_size (u.size : Int)
  refine ⟨fun W => text.impl_text u W hm, fun W => text.spec_text u W hm, ?_, fun h0 h1 W hL => ?_, fun h0 h1 W hL => ?_⟩
  · unfold text.textS; split
    · exact Nat.zero_le _
    · simp only [ByteArray.size_append]; omega
  · by_cases hb : 8000 < u.size
    · rw [show text.textS u = ⟨#[]⟩ from if_pos hb] at h0; exact absurd rfl h0
    · rw [rnd.put_text u (by omega)] at h0 h1 ⊢
      simp only [ByteArray.size_append] at h0 h1 ⊢
      have e := rnd.out_text u (by omega) xx rfl
      have c := gett.impl_text (xx ++ (put.numS u.size ++ u)) 1 W (by unfold maxLen; simp only [ByteArray.size_append, show xx.size = 1 from rfl]; omega) (by omega) hL
      rw [e] at c
      simp only [gett.tout] at c
      exact c
  · by_cases hb : 8000 < u.size
    · rw [show text.textS u = ⟨#[]⟩ from if_pos hb] at h0; exact absurd rfl h0
    · rw [rnd.put_text u (by omega)] at h0 h1 ⊢
      have e := rnd.out_text_cut u (by simp only [ByteArray.size_append] at h1; omega)
      have c := gett.impl_text ((put.numS u.size ++ u).extract 0 ((put.numS u.size ++ u).size - 1)) 0 W (by unfold maxLen; simp only [ByteArray.size_extract]; omega) (by omega) hL
      generalize gett.textR ((put.numS u.size ++ u).extract 0 ((put.numS u.size ++ u).size - 1)) 0 = R at c e
      obtain ⟨a, b, d⟩ := R
      simp only at e
      subst e
      exact ⟨a, _, c⟩

theorem big (x : Option Addr) (len cap : Nat) (y : Option Addr) (len' cap' : Nat) (w : World) (h : (len : Int) ≤ 9223372036854775807) (h' : (len' : Int) ≤ 9223372036854775807) (hb : 1048576 < len ∨ 1048576 < len') :
    Calls Tryd.prog 3 #[.slice x len cap, .slice y len' cap'] w fun e w' => e = .returned (.bool true) ∧ Below w.heap.size w w' := by
  by_cases h1 : 1048576 < len
  · clear hb
    go_enter Tryd.func3, Tryd.ntmps3
    go_wp2
    go_ret
    exact ⟨rfl, Below.refl _ _⟩
  · have h2 : 1048576 < len' := by omega
    clear hb
    go_enter Tryd.func3, Tryd.ntmps3
    go_wp2
    go_ret
    exact ⟨rfl, Below.refl _ _⟩
end Go.Proofs.YtjiihkdnpblilaaDoor.nums
